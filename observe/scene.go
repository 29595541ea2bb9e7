package observe

import (
	"iter"

	"canopy/api"
	"canopy/draft"
)

// scene is what is followed through changes that can be done: the trees, the watch, and who is asked for a node.
type scene struct {
	trees *draft.Draft
	watch api.Watch
	asked map[int][]asker // by nodes, of each by rising Ids
	ways  [api.RecordCount]way
}

// asker is a registration, and whether its filter has a name.
type asker struct {
	api.Registration
	named func(string) bool
}

func sceneOf(f api.Forest, w api.Watch) *scene {
	s := &scene{trees: draft.Of(f), watch: kept(w, all), asked: map[int][]asker{}, ways: ways()}
	for _, r := range w.Regs {
		s.ask(asker{r, among(r.Options.Filter)})
	}
	return s
}

func (s *scene) ask(x asker) { s.asked[x.Node] = append(s.asked[x.Node], x) }

// among tells whether a name is in a filter. Filters may be long, and many, and none of them asked: each is read when it is asked first.
func among(filter []string) func(string) bool {
	var places map[string]int
	return func(local string) bool {
		if places == nil {
			places = make(map[string]int, len(filter))
			for i, name := range filter {
				places[name] = i
			}
		}
		_, is := places[local]
		return is
	}
}

// follow has the watch, and the trees, as they are behind a change; false, if a list is full.
func (s *scene) follow(c api.Change) bool {
	fits := true
	if r, is := s.recordOf(c); is {
		fits = s.queue(r)
	}
	if c.Kind == api.ChangeRemove {
		fits = s.trail(c)
	}
	s.trees.Follow(c)
	return fits
}

// recordOf is the record that a change queues, with what was there ahead of it.
func (s *scene) recordOf(c api.Change) (api.Record, bool) {
	switch c.Kind {
	case api.ChangeAttr:
		return api.Record{Kind: api.RecordAttr, Target: c.Node, Local: c.Name.Local, Space: c.Name.Space, Has: c.Had, Old: c.Old}, true
	case api.ChangeData:
		return api.Record{Kind: api.RecordData, Target: c.Node, Has: true, OldData: s.trees.Node(c.Node).Data}, true
	case api.ChangeTree:
		return api.Record{Kind: api.RecordTree, Target: c.Parent, Added: c.Added, Removed: c.Removed, Prev: c.Prev, Next: c.Next}, true
	}
	return api.Record{}, false
}

// upFrom yields a node, its parent, and so on; of 0 none.
func (s *scene) upFrom(h int) iter.Seq[int] {
	return func(yield func(int) bool) {
		for at := h; at != 0 && yield(at); at = s.trees.Node(at).Parent {
		}
	}
}

// above yields all who are asked from a node up to the root.
func (s *scene) above(h int) iter.Seq[asker] {
	return func(yield func(asker) bool) {
		for at := range s.upFrom(h) {
			for _, x := range s.asked[at] {
				if !yield(x) {
					return
				}
			}
		}
	}
}

// queue has a record in the queue of each observer that is interested; false, if one is full.
func (s *scene) queue(r api.Record) bool {
	by, wishes := s.ways[r.Kind], map[int]int{}
	var observers []int
	for x := range s.above(r.Target) {
		if x.Node != r.Target && !x.Options.Subtree || !by.interested(x, r) {
			continue
		}
		if _, is := wishes[x.Observer]; !is {
			observers = append(observers, x.Observer)
		}
		wishes[x.Observer] += by.wishes(x)
	}
	for _, n := range observers {
		queue := &s.watch.Queues[n-1]
		if len(*queue) == api.MaxRecords {
			return false
		}
		told := r
		if wishes[n] == 0 {
			told.Has, told.Old, told.OldData = false, "", nil
		}
		*queue = append(*queue, copyOfRecord(told))
	}
	return true
}

// trail has those who watch what a node is removed from go on watching the node; false, if there are too many. They are found first: what is made of them is not asked.
func (s *scene) trail(c api.Change) bool {
	var found []asker
	for x := range s.above(c.Parent) {
		if x.Options.Subtree {
			found = append(found, x)
		}
	}
	for _, x := range found {
		x.Node, x.Source, x.Options = c.Node, x.Id, copyOfOptions(x.Options)
		if !register(&s.watch, x.Registration) {
			return false
		}
		x.Id = s.watch.Next - 1
		s.ask(x)
	}
	return true
}
