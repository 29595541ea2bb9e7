package react

import (
	"iter"

	"canopy/api"
	"canopy/draft"
)

// scene is what is followed through changes that can be done: the trees, and who tells elements of what becomes of them.
type scene struct {
	*teller
	trees *draft.Draft
}

// way is what elements are told by changes of a kind, in the trees ahead of one; false, if there is no room.
type way struct {
	tell func(scene, api.Change) bool
}

// ways has those kinds of changes of which elements are told.
func ways() [api.ChangeCount]way {
	return [api.ChangeCount]way{
		api.ChangeInsert: {scene.inserted},
		api.ChangeRemove: {scene.removed},
		api.ChangeAdopt:  {scene.adopted},
		api.ChangeAttr:   {scene.named},
	}
}

// follow tells elements of changes, one behind the other; false, if there is no room.
func (t *teller) follow(f api.Forest, changes []api.Change) bool {
	s, by := scene{t, draft.Of(f)}, ways()
	for _, c := range changes {
		if tell := by[c.Kind].tell; tell != nil && !tell(s, c) {
			return false
		}
		s.trees.Follow(c)
	}
	return true
}

// elements yields a node and what is below it, if it is an element, with its handle.
func (s scene) elements(h int) iter.Seq2[int, *api.Node] {
	return func(yield func(int, *api.Node) bool) {
		for at := range s.trees.Below(h) {
			if n := s.trees.Node(at); n.Kind == api.KindElement && !yield(at, n) {
				return
			}
		}
	}
}

func (s scene) inserted(c api.Change) bool {
	if !s.trees.Connected(c.Parent) {
		return true
	}
	for h, n := range s.elements(c.Node) {
		if !s.tell(api.Reaction{Element: h, Kind: api.ReactConnected}) || !s.try(h, n.Name) {
			return false
		}
	}
	return true
}

func (s scene) removed(c api.Change) bool {
	if !s.trees.Connected(c.Parent) {
		return true
	}
	for h := range s.elements(c.Node) {
		if !s.tell(api.Reaction{Element: h, Kind: api.ReactDisconnected}) {
			return false
		}
	}
	return true
}

func (s scene) adopted(c api.Change) bool {
	for h, n := range s.elements(c.Node) {
		if !s.tell(api.Reaction{Element: h, Kind: api.ReactAdopted, From: n.Doc, To: c.Doc}) {
			return false
		}
	}
	return true
}

func (s scene) named(c api.Change) bool {
	return s.tell(api.Reaction{
		Element: c.Node, Kind: api.ReactChanged, Local: c.Name.Local, Space: c.Name.Space,
		Old: c.Old, Had: c.Had, New: c.Value, Has: c.Has,
	})
}
