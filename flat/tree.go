package flat

import (
	"iter"

	"canopy/api"
	"canopy/sight"
	"canopy/slots"
)

// tree is the flat tree of a right forest.
type tree struct {
	forest   api.Forest
	sight    sight.Sight
	assigned map[int][]int // by the slot
	slot     map[int]int   // by what is assigned to it
}

func treeOf(f api.Forest, hand []api.Assign) tree {
	assigned, slot := slots.Of(f, hand).Everywhere()
	return tree{f, sight.Of(f), assigned, slot}
}

func (t tree) node(h int) *api.Node { return &t.forest.Nodes[h-1] }

// counts tells whether a node is a slot that counts.
func (t tree) counts(h int) bool { return slots.Is(t.forest, h) && t.sight.Shadow(h) != 0 }

// filled tells whether a node is a slot that counts, to which something is assigned. None is assigned to others, so that they need not be asked whether they count.
func (t tree) filled(h int) bool { return len(t.assigned[h]) > 0 }

// content is what is assigned to a node, or, if that is nothing, its kids: it may be the forest's own list.
func (t tree) content(h int) []int {
	if t.filled(h) {
		return t.assigned[h]
	}
	return t.node(h).Kids
}

// comesTo yields what a slot comes to.
func (t tree) comesTo(slot int) iter.Seq[int] {
	return func(yield func(int) bool) {
		if t.counts(slot) {
			t.pour(slot, yield)
		}
	}
}

// pour yields what stands in a node's place: what a slot that counts comes to, or the node itself. It tells whether to go on. It ends: what is assigned to a slot, and what it has as kids, is behind it in shadow-including tree order.
func (t tree) pour(h int, yield func(int) bool) bool {
	if !t.counts(h) {
		return yield(h)
	}
	for _, next := range t.content(h) {
		if slots.Slottable(t.forest, next) && !t.pour(next, yield) {
			return false
		}
	}
	return true
}

// kids are a node's flat kids: as content, they may be the forest's own list.
func (t tree) kids(h int) []int {
	if root := t.node(h).Shadow; root != 0 {
		return t.node(root).Kids
	}
	return t.content(h)
}

// parent is a node's flat parent, 0 for none.
func (t tree) parent(h int) int {
	parent := t.node(h).Parent
	if parent == 0 {
		return 0
	}
	switch over := t.node(parent); {
	case over.Kind == api.KindShadow:
		return over.Host
	case over.Shadow != 0:
		return t.slot[h]
	case t.filled(parent):
		return 0
	}
	return parent
}

// all are a node and all within it in the flat tree. It ends, as pour does: flat kids are behind their node in that order.
func (t tree) all(h int) []int {
	var list []int
	var visit func(int)
	visit = func(at int) {
		list = append(list, at)
		each(t.kids(at), visit)
	}
	visit(h)
	return list
}

func each(handles []int, visit func(int)) {
	for _, h := range handles {
		visit(h)
	}
}
