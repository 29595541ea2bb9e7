package shadow

import (
	"iter"
	"slices"

	"canopy/api"
)

// scene is a right forest, and what its slots were given by hand. What the maps have is not written into.
type scene struct {
	forest api.Forest
	given  map[int][]int // by the slot
	giving map[int]int   // by the node: the slot that was given it
}

func sceneOf(f api.Forest, hand []api.Assign) scene {
	s := scene{f, map[int][]int{}, map[int]int{}}
	for _, a := range hand {
		s.given[a.Slot] = a.Nodes
		for _, h := range a.Nodes {
			s.giving[h] = a.Slot
		}
	}
	return s
}

func (s scene) node(h int) *api.Node { return &s.forest.Nodes[h-1] }

// slots yields the slots within a node, in tree order.
func (s scene) slots(h int) iter.Seq[int] {
	return func(yield func(int) bool) { s.goThrough(h, yield) }
}

func (s scene) goThrough(h int, yield func(int) bool) bool {
	if isSlot(s.forest, h) && !yield(h) {
		return false
	}
	for _, kid := range s.node(h).Kids {
		if !s.goThrough(kid, yield) {
			return false
		}
	}
	return true
}

// nameOf is a slot's name, wishOf that of a slottable.
func (s scene) nameOf(slot int) string { return s.reflected(slot, "name") }

func (s scene) wishOf(h int) string { return s.reflected(h, "slot") }

// reflected is what an attribute without a namespace has.
func (s scene) reflected(h int, local string) string {
	attrs := s.node(h).Attrs
	at := slices.IndexFunc(attrs, func(a api.Attr) bool { return a.Name.Space == "" && a.Name.Local == local })
	if at < 0 {
		return ""
	}
	return attrs[at].Value
}

// shadowAt is the shadow root of the tree that a node is in, 0 if that has another root.
func (s scene) shadowAt(h int) int {
	for s.node(h).Parent != 0 {
		h = s.node(h).Parent
	}
	if s.node(h).Kind != api.KindShadow {
		return 0
	}
	return h
}

// shadowOver is the shadow root of a node's parent, 0 for none.
func (s scene) shadowOver(h int) int {
	parent := s.node(h).Parent
	if parent == 0 {
		return 0
	}
	return s.node(parent).Shadow
}

// view is what of a shadow tree is looked at: all of its slots, or those that have some names, or, where they are given nodes by hand, some slots.
type view struct {
	root  int
	all   bool
	names map[string]int
	slots map[int]int
}

func viewOf(root int) view { return view{root: root, names: map[string]int{}, slots: map[int]int{}} }

func (v view) withName(name string) view {
	v.names[name]++
	return v
}

func (v view) withSlot(slot int) view {
	v.slots[slot]++
	return v
}

func (v view) hasName(name string) bool { return v.all || v.names[name] > 0 }

func (v view) hasSlot(slot int) bool { return v.all || v.slots[slot] > 0 }

// assigned is, by the slot, what is assigned to the slots that are looked at. It is new memory.
func (s scene) assigned(v view) map[int][]int {
	switch {
	case v.root == 0:
		return nil
	case s.node(v.root).Manual:
		return s.byHand(v)
	}
	return s.byName(v)
}

func (s scene) byHand(v view) map[int][]int {
	nodes, host := map[int][]int{}, s.node(v.root).Host
	for slot := range s.slots(v.root) {
		if !v.hasSlot(slot) {
			continue
		}
		for _, h := range s.given[slot] {
			if s.node(h).Parent == host {
				nodes[slot] = append(nodes[slot], h)
			}
		}
	}
	return nodes
}

func (s scene) byName(v view) map[int][]int {
	nodes, first := map[int][]int{}, map[string]int{}
	for slot := range s.slots(v.root) {
		name := s.nameOf(slot)
		if v.hasName(name) && first[name] == 0 {
			first[name] = slot
		}
	}
	for _, kid := range s.node(s.node(v.root).Host).Kids {
		if slot := first[s.wishOf(kid)]; slot != 0 && isSlottable(s.forest, kid) {
			nodes[slot] = append(nodes[slot], kid)
		}
	}
	return nodes
}

// assignedTo is what is assigned to a slot.
func (s scene) assignedTo(slot int) []int {
	return s.assigned(viewOf(s.shadowAt(slot)).withName(s.nameOf(slot)).withSlot(slot))[slot]
}

// slotOf is the slot of a node, 0 for none.
func (s scene) slotOf(h int, open bool) int {
	root := s.shadowOver(h)
	if root == 0 || open && s.node(root).Mode == api.ShadowClosed {
		return 0
	}
	for slot, nodes := range s.assigned(viewOf(root).withName(s.wishOf(h)).withSlot(s.giving[h])) {
		if slices.Contains(nodes, h) {
			return slot
		}
	}
	return 0
}
