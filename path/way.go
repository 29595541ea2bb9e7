package path

import (
	"canopy/api"
	"canopy/sight"
	"canopy/slots"
)

// way is what an event's path is put together from.
type way struct {
	forest          api.Forest
	sight           sight.Sight
	slot            map[int]int // by what is assigned to it
	target, related int
	composed        bool
}

func wayOf(f api.Forest, hand []api.Assign, target, related int, composed bool) way {
	_, slot := slots.Of(f, hand).Everywhere()
	return way{f, sight.Of(f), slot, target, related, composed}
}

func (w way) node(h int) *api.Node { return &w.forest.Nodes[h-1] }

// closed tells whether a node is a closed shadow root; 0 is none.
func (w way) closed(h int) bool { return h != 0 && w.node(h).Mode == api.ShadowClosed }

// next is the step behind a node, 0 for none.
func (w way) next(h int) int {
	switch n := w.node(h); {
	case n.Kind == api.KindShadow && !w.composed && h == w.sight.Root(w.target):
		return 0
	case n.Kind == api.KindShadow:
		return n.Host
	case w.slot[h] != 0:
		return w.slot[h]
	default:
		return n.Parent
	}
}

// tell puts something into a step.
type tell func(*api.Step)

// step is a node's, with what is told of it.
func (w way) step(h int, tells ...tell) api.Step {
	s := api.Step{Item: h, InShadow: w.sight.Shadow(h) != 0, Closed: w.closed(h), Related: w.sight.From(h, w.related)}
	for _, t := range tells {
		t(&s)
	}
	return s
}

// aims has a step be a target of its own.
func aims(s *api.Step) { s.Target = s.Item }

// slotted has a step be a slot in a closed tree, if what is ahead of it was assigned to it.
func (w way) slotted(ahead int) tell {
	return func(s *api.Step) { s.Slot = w.slot[ahead] == s.Item && w.closed(w.sight.Shadow(s.Item)) }
}

// steps is the path: as long as a tree holds what comes, its target is that of a step ahead. It ends: out of the tree of a slot it comes to the parent of what was assigned to that.
func (w way) steps() []api.Step {
	first := w.step(w.target, aims)
	if first.Related == w.target && w.related != w.target {
		return nil
	}
	list, from := []api.Step{first}, w.sight.Root(w.target)
	for ahead, h := w.target, w.next(w.target); h != 0; ahead, h = h, w.next(h) {
		step := w.step(h, w.slotted(ahead))
		if !w.sight.Holds(from, h) {
			if step.Related == h {
				break
			}
			aims(&step)
			from = w.sight.Root(h)
		}
		list = append(list, step)
	}
	return list
}
