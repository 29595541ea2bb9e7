package world

import (
	"slices"

	"canopy/api"
	"canopy/custom"
	"canopy/iterate"
	"canopy/observe"
	"canopy/ranges"
	"canopy/react"
	"canopy/shadow"
)

// things are what a world has that is plain data. Whoever turns some of it puts new memory in its place, so that what there was is kept by keeping the struct. Fuel and Exhausted stand in the world itself.
type things struct {
	api.State
	reacts api.Reacts // that wait
	slots  []int      // that must be told
	waits  bool       // the microtask of observers
}

// tells tells whether a slot must be told of something, or an observer.
func (t *things) tells() bool {
	return len(t.slots) > 0 || slices.ContainsFunc(t.Watch.Queues, func(l []api.Record) bool { return len(l) > 0 })
}

// follower is something that lives with the forest: whether there is any, and how it becomes what it is behind changes. Where there is none, all of the forest would be gone over for nothing.
type follower struct {
	lives   func(*things) bool
	follows func(*things, []api.Change) api.Errno
}

// follow has all that lives with the forest that there is become what it is behind changes; then the forest is g. An element that is made gets is.
func (t *things) follow(g api.Forest, l []api.Change, is string) api.Errno {
	if len(l) > api.MaxList { // whoever follows would say so
		return api.ErrMany
	}
	for _, f := range [...]follower{
		{(*things).hasIterators, (*things).moveIterators}, {(*things).hasRanges, (*things).moveRanges},
		{(*things).isWatched, (*things).record}, {(*things).hasShadows, (*things).signal}, {(*things).hasDefinitions, (*things).tell},
	} {
		if !f.lives(t) {
			continue
		}
		if why := f.follows(t, l); why != api.OK {
			return why
		}
	}
	t.Forest = g
	return t.beginAll(l, is)
}

// beginAll has all elements that were made be among those that may become custom ones.
func (t *things) beginAll(l []api.Change, is string) api.Errno {
	for _, c := range l {
		if c.Kind != api.ChangeMake || c.Made.Kind != api.KindElement {
			continue
		}
		if why := t.begin(c.Node, is); why != api.OK {
			return why
		}
	}
	return api.OK
}

func (t *things) hasIterators() bool { return len(t.Iterators) > 0 }

func (t *things) hasRanges() bool { return len(t.Ranges) > 0 }

func (t *things) isWatched() bool { return len(t.Watch.Regs) > 0 }

// hasShadows tells whether there is a shadow tree, whose slots may have something assigned. Who makes the first one changes nothing else.
func (t *things) hasShadows() bool {
	return slices.ContainsFunc(t.Forest.Nodes, func(n api.Node) bool { return n.Kind == api.KindShadow })
}

func (t *things) hasDefinitions() bool { return len(t.Registry.Definitions) > 0 }

func (t *things) moveIterators(l []api.Change) (why api.Errno) {
	t.Iterators, why = iterate.Fold(t.Forest, t.Iterators, l)
	return why
}

func (t *things) moveRanges(l []api.Change) (why api.Errno) {
	t.Ranges, why = ranges.Fold(t.Forest, t.Ranges, l)
	return why
}

func (t *things) record(l []api.Change) (why api.Errno) {
	t.Watch, why = observe.Fold(t.Forest, t.Watch, l)
	return why
}

func (t *things) signal(l []api.Change) api.Errno {
	slots, why := shadow.Signals(t.Forest, t.Hand, l)
	t.mustTell(slots)
	return why
}

// mustTell has some slots be told, each once.
func (t *things) mustTell(slots []int) {
	all := slices.Clone(t.slots)
	for _, slot := range slots {
		if !slices.Contains(all, slot) {
			all = append(all, slot)
		}
	}
	t.slots = all
}

func (t *things) tell(l []api.Change) (why api.Errno) {
	t.reacts, _, why = react.Fold(t.Forest, t.reacts, t.Registry, l)
	return why
}

// begin has an element that was made be among those that may become custom ones.
func (t *things) begin(h int, is string) (why api.Errno) {
	t.Registry, why = custom.Begin(t.Forest, t.Registry, h, is)
	if why != api.OK {
		return why
	}
	return t.try(h)
}

// try has an element be upgraded, if there is a definition.
func (t *things) try(h int) (why api.Errno) {
	t.reacts, _, why = react.Try(t.Forest, t.reacts, t.Registry, h)
	return why
}

// set has an element of the registry further on.
func (t *things) set(h int, s api.CustomState, definition string) {
	if turned, why := custom.Set(t.Registry, h, s, definition); why == api.OK {
		t.Registry = turned
	}
}

// forget has no reaction of an element wait any more.
func (t *things) forget(h int) {
	for is := true; is; {
		t.reacts, _, _, is, _ = react.Take(t.reacts, []int{h})
	}
}
