package valid_test

import (
	"slices"
	"testing"

	"canopy/api"
	"canopy/forest"
	"canopy/sample"
	"canopy/valid"
)

// works does changes one by one: can is false as soon as one can't be done.
type works struct {
	f   api.Forest
	can bool
}

func (w *works) do(change api.Change) {
	g, why := forest.Apply(w.f, change)
	if w.can = w.can && why == api.OK; w.can {
		w.f = g
	}
}

func (w *works) takeAway(h int) {
	if parent := w.f.Nodes[h-1].Parent; parent != 0 {
		w.do(api.Change{Kind: api.ChangeRemove, Node: h, Parent: parent, Index: slices.Index(w.f.Nodes[parent-1].Kids, h)})
	}
}

// put has nodes ahead of a kid of a parent, or behind all of them, where next is 0.
func (w *works) put(nodes []int, parent, next int) {
	for _, h := range nodes {
		w.takeAway(h)
		w.do(api.Change{Kind: api.ChangeAdopt, Node: h, Doc: w.f.Nodes[parent-1].Doc})
		at := len(w.f.Nodes[parent-1].Kids)
		if next != 0 {
			at = slices.Index(w.f.Nodes[parent-1].Kids, next)
		}
		w.do(api.Change{Kind: api.ChangeInsert, Node: h, Parent: parent, Index: at})
	}
}

// behind is the sibling behind a kid, 0 if there is none.
func behind(f api.Forest, h int) int {
	kids := f.Nodes[f.Nodes[h-1].Parent-1].Kids
	if at := slices.Index(kids, h) + 1; at < len(kids) {
		return kids[at]
	}
	return 0
}

func nodesOf(f api.Forest, node int) []int {
	if f.Nodes[node-1].Kind == api.KindFragment {
		return f.Nodes[node-1].Kids
	}
	return []int{node}
}

// canInsert tells whether what Insert lets in can be put there.
func canInsert(f api.Forest, node, parent, child int) bool {
	w := works{f, true}
	if child == node {
		child = behind(f, node)
	}
	w.put(nodesOf(f, node), parent, child)
	return w.can
}

// canReplace tells whether what Replace lets in can be put there.
func canReplace(f api.Forest, node, parent, child int) bool {
	w := works{f, true}
	next := behind(f, child)
	if next == node {
		next = behind(f, node)
	}
	w.takeAway(child)
	w.put(nodesOf(f, node), parent, next)
	return w.can
}

// wantDone sees that what is let in can be done, and counts it.
func wantDone(t *testing.T, f api.Forest, node, parent, child int, let *int) {
	t.Helper()
	if valid.Insert(f, node, parent, child) == api.OK {
		*let++
		if !canInsert(f, node, parent, child) {
			t.Fatalf("P8.6: Insert(%d, %d, %d): %+v", node, parent, child, f)
		}
	}
	if valid.Replace(f, node, parent, child) == api.OK {
		*let++
		if !canReplace(f, node, parent, child) {
			t.Fatalf("P8.6: Replace(%d, %d, %d): %+v", node, parent, child, f)
		}
	}
}

// P8.6: what is let in can be done by changes, each of which leaves the forest right.
func TestCanBeDone(t *testing.T) {
	let := 0
	for _, top := range tops() {
		f := yard(top)
		for node := 1; node <= len(f.Nodes); node++ {
			for child := range len(top) + 2 {
				if child != 1 {
					wantDone(t, f, node, 1, child, &let)
				}
			}
		}
	}
	for seed := range 300 {
		dice := sample.NewDice(seed)
		f := sample.Grow(dice, 2+dice.Below(14))
		for range 60 {
			parent := 1 + dice.Below(len(f.Nodes))
			kids := append([]int{0}, f.Nodes[parent-1].Kids...)
			wantDone(t, f, 1+dice.Below(len(f.Nodes)), parent, kids[dice.Below(len(kids))], &let)
		}
	}
	if let < 5000 {
		t.Error("too few are let in:", let)
	}
}

// P8.2, the other way round: a document refuses a node that is none of its kids only where putting it there would leave the forest wrong.
func TestNotTooStrict(t *testing.T) {
	for _, top := range tops() {
		f := yard(top)
		for node := len(top) + 2; node <= len(f.Nodes); node++ {
			for child := range len(top) + 2 {
				if child == 1 || f.Nodes[node-1].Kind == api.KindDocument {
					continue
				}
				if why := valid.Insert(f, node, 1, child); why != api.OK && canInsert(f, node, 1, child) {
					t.Fatalf("Insert(%d, 1, %d) = %d: %+v", node, child, why, f)
				}
				if child == 0 {
					continue
				}
				if why := valid.Replace(f, node, 1, child); why != api.OK && canReplace(f, node, 1, child) {
					t.Fatalf("Replace(%d, 1, %d) = %d: %+v", node, child, why, f)
				}
			}
		}
	}
}

// P8.8: under an element, a fragment, a shadow root what may be there is let in ahead of each kid, and behind all, if it does not hold it.
func TestAnywhereElse(t *testing.T) {
	under := map[api.NodeKind]int{}
	for seed := range 200 {
		dice := sample.NewDice(seed)
		f := sample.Grow(dice, 2+dice.Below(14))
		for parent, n := range f.Nodes {
			if n.Kind != e && n.Kind != api.KindFragment && n.Kind != api.KindShadow {
				continue
			}
			for node, m := range f.Nodes {
				if !slices.Contains([]api.NodeKind{e, x, s, c, i}, m.Kind) || (model{f}).holds(node+1, parent+1) {
					continue
				}
				under[n.Kind]++
				for _, child := range append([]int{0}, n.Kids...) {
					if why := valid.Insert(f, node+1, parent+1, child); why != api.OK {
						t.Fatalf("P8.8: Insert(%d, %d, %d) = %d: %+v", node+1, parent+1, child, why, f)
					}
				}
			}
		}
	}
	if under[e] < 100 || under[api.KindFragment] < 100 || under[api.KindShadow] < 100 {
		t.Error("too few:", under)
	}
}

// P8.5: what is handed in stays as it is, and so does the room behind its lists.
func TestHandedIn(t *testing.T) {
	for _, top := range tops() {
		f := sample.Roomy(yard(top))
		was := wholeOf(f)
		for node := 1; node <= len(f.Nodes); node++ {
			for child := range len(top) + 2 {
				valid.Insert(f, node, 1, child)
				valid.Replace(f, node, 1, child)
				valid.Adopt(f, node)
			}
		}
		if !forest.Same(wholeOf(f), was) || len(was.Nodes) == len(f.Nodes) {
			t.Fatal("P8.5: the forest that was handed in is changed")
		}
	}
}

// wholeOf is a copy of a forest, with the room behind its lists as though it were of them.
func wholeOf(f api.Forest) api.Forest {
	g := api.Forest{Nodes: slices.Clone(f.Nodes[:cap(f.Nodes)])}
	for at, n := range g.Nodes {
		g.Nodes[at].Kids = n.Kids[:cap(n.Kids)]
		g.Nodes[at].Attrs = n.Attrs[:cap(n.Attrs)]
		g.Nodes[at].Data = n.Data[:cap(n.Data)]
	}
	return sample.Copy(g)
}
