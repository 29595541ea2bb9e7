// Package slots tells what is assigned to the slots of a right forest, for layers that ask for many of them: the calls of package shadow would go over all of a forest for each one.
package slots

import (
	"iter"
	"maps"
	"slices"

	"canopy/api"
)

// Scene is a right forest, and what its slots were given by hand, which is right as well: whoever makes one has seen to that. What the maps have is not written into.
type Scene struct {
	Forest api.Forest
	given  map[int][]int // by the slot
	giving map[int]int   // by the node: the slot that was given it
}

// Of is a forest with what its slots were given by hand.
func Of(f api.Forest, hand []api.Assign) Scene {
	s := Scene{f, map[int][]int{}, map[int]int{}}
	for _, a := range hand {
		s.given[a.Slot] = a.Nodes
		for _, h := range a.Nodes {
			s.giving[h] = a.Slot
		}
	}
	return s
}

// Is tells whether a node is a slot.
func Is(f api.Forest, h int) bool {
	n := &f.Nodes[h-1]
	return n.Kind == api.KindElement && n.Name.Space == api.SpaceHTML && n.Name.Local == "slot"
}

// Slottable tells whether a node is one.
func Slottable(f api.Forest, h int) bool {
	switch f.Nodes[h-1].Kind {
	case api.KindElement, api.KindText, api.KindCData:
		return true
	}
	return false
}

// Node is that of a handle.
func (s Scene) Node(h int) *api.Node { return &s.Forest.Nodes[h-1] }

// Within yields the slots within a node, in tree order.
func (s Scene) Within(h int) iter.Seq[int] {
	return func(yield func(int) bool) { s.goThrough(h, yield) }
}

func (s Scene) goThrough(h int, yield func(int) bool) bool {
	if Is(s.Forest, h) && !yield(h) {
		return false
	}
	for _, kid := range s.Node(h).Kids {
		if !s.goThrough(kid, yield) {
			return false
		}
	}
	return true
}

// Name is a slot's name.
func (s Scene) Name(slot int) string { return s.reflected(slot, "name") }

// Wish is the name of the slot that a node is for.
func (s Scene) Wish(h int) string { return s.reflected(h, "slot") }

// reflected is what an attribute without a namespace has.
func (s Scene) reflected(h int, local string) string {
	attrs := s.Node(h).Attrs
	at := slices.IndexFunc(attrs, func(a api.Attr) bool { return a.Name.Space == "" && a.Name.Local == local })
	if at < 0 {
		return ""
	}
	return attrs[at].Value
}

// Giver is the slot that was given a node by hand, 0 for none.
func (s Scene) Giver(h int) int { return s.giving[h] }

// At is the shadow root of the tree that a node is in, 0 if that has another root.
func (s Scene) At(h int) int {
	for s.Node(h).Parent != 0 {
		h = s.Node(h).Parent
	}
	if s.Node(h).Kind != api.KindShadow {
		return 0
	}
	return h
}

// Over is the shadow root of a node's parent, 0 for none.
func (s Scene) Over(h int) int {
	parent := s.Node(h).Parent
	if parent == 0 {
		return 0
	}
	return s.Node(parent).Shadow
}

// To is what is assigned to a slot.
func (s Scene) To(slot int) []int {
	return s.Assigned(Some(s.At(slot)).WithName(s.Name(slot)).WithSlot(slot))[slot]
}

// Slot is the slot of a node, 0 for none.
func (s Scene) Slot(h int) int {
	root := s.Over(h)
	if root == 0 {
		return 0
	}
	for slot, nodes := range s.Assigned(Some(root).WithName(s.Wish(h)).WithSlot(s.giving[h])) {
		if slices.Contains(nodes, h) {
			return slot
		}
	}
	return 0
}

// Everywhere is, by the slot, what is assigned to each slot of the forest, and, by the node, the slot of each node that is assigned: each shadow tree is gone through once.
func (s Scene) Everywhere() (map[int][]int, map[int]int) {
	nodes, slot := map[int][]int{}, map[int]int{}
	for i, n := range s.Forest.Nodes {
		if n.Kind == api.KindShadow {
			maps.Copy(nodes, s.Assigned(Whole(i+1)))
		}
	}
	for to, list := range nodes {
		for _, h := range list {
			slot[h] = to
		}
	}
	return nodes, slot
}
