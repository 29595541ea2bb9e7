package mutate_test

import (
	"fmt"
	"slices"
	"testing"

	"canopy/api"
	"canopy/mutate"
)

// bySome are the calls that have a list of nodes.
func bySome() map[string]func(f api.Forest, h int, nodes []int) (api.Forest, []api.Change, api.Errno) {
	return map[string]func(f api.Forest, h int, nodes []int) (api.Forest, []api.Change, api.Errno){
		"Before": mutate.Before, "After": mutate.After, "ReplaceWith": mutate.ReplaceWith,
		"Prepend": mutate.Prepend, "AppendAll": mutate.AppendAll, "ReplaceKids": mutate.ReplaceKids,
	}
}

// whole is the fragment that some nodes are put into.
func whole(doc int) api.Change { return made(32, api.Node{Kind: api.KindFragment, Doc: doc}) }

// someCase is a call with a list, and the changes that it must do.
type someCase struct {
	call  string
	h     int
	nodes []int
	want  []api.Change
}

func wantSome(t *testing.T, cases ...someCase) {
	t.Helper()
	for _, c := range cases {
		wants(t, fmt.Sprint(c.call, c.h, c.nodes), page(), got(bySome()[c.call](page(), c.h, c.nodes)), c.want...)
	}
}

// 9.6: no nodes are a fragment without kids.
func TestNoNodes(t *testing.T) {
	for _, nodes := range [][]int{nil, {}} {
		wantSome(t,
			someCase{"Before", 6, nodes, []api.Change{whole(1)}},
			someCase{"After", 6, nodes, []api.Change{whole(1)}},
			someCase{"ReplaceWith", 6, nodes, []api.Change{whole(1), rem(6, 3, 1), tree(3, nil, some(6), 5, 7)}},
			someCase{"Prepend", 6, nodes, []api.Change{whole(1)}},
			someCase{"AppendAll", 21, nodes, []api.Change{whole(20)}},
			someCase{"ReplaceKids", 6, nodes, []api.Change{whole(1), rem(9, 6, 0), tree(6, nil, some(9), 0, 0)}},
			someCase{"ReplaceKids", 23, nodes, []api.Change{whole(1)}},
		)
	}
}

// 9.6: one node is put by itself, also where it is h, a sibling of h, a kid of h, a fragment.
func TestOneNode(t *testing.T) {
	again := []api.Change{rem(6, 3, 1), tree(3, nil, some(6), 5, 7), ins(6, 3, 1), tree(3, some(6), nil, 6, 7)}
	wantSome(t,
		someCase{"Before", 6, some(23), []api.Change{ins(23, 3, 1), tree(3, some(23), nil, 5, 6)}},
		someCase{"Before", 5, some(23), []api.Change{ins(23, 3, 0), tree(3, some(23), nil, 0, 5)}},
		someCase{"After", 6, some(23), []api.Change{ins(23, 3, 2), tree(3, some(23), nil, 6, 7)}},
		someCase{"After", 8, some(23), []api.Change{ins(23, 3, 4), tree(3, some(23), nil, 8, 0)}},
		someCase{"ReplaceWith", 6, some(23), []api.Change{rem(6, 3, 1), ins(23, 3, 1), tree(3, some(23), some(6), 5, 7)}},
		someCase{"Prepend", 3, some(23), []api.Change{ins(23, 3, 0), tree(3, some(23), nil, 0, 5)}},
		someCase{"Prepend", 23, some(28), []api.Change{ins(28, 23, 0), tree(23, some(28), nil, 0, 0)}},
		someCase{"AppendAll", 3, some(23), []api.Change{ins(23, 3, 4), tree(3, some(23), nil, 8, 0)}},
		someCase{"ReplaceKids", 6, some(23), []api.Change{rem(9, 6, 0), ins(23, 6, 0), tree(6, some(23), some(9), 0, 0)}},
		// h itself
		someCase{"Before", 6, some(6), again},
		someCase{"After", 6, some(6), again},
		someCase{"Before", 5, some(5), []api.Change{
			rem(5, 3, 0), tree(3, nil, some(5), 0, 6), ins(5, 3, 0), tree(3, some(5), nil, 5, 6)}},
		someCase{"After", 8, some(8), []api.Change{
			rem(8, 3, 3), tree(3, nil, some(8), 7, 0), ins(8, 3, 3), tree(3, some(8), nil, 8, 0)}},
		someCase{"ReplaceWith", 6, some(6), []api.Change{rem(6, 3, 1), ins(6, 3, 1), tree(3, some(6), some(6), 5, 7)}},
		// siblings of h
		someCase{"Before", 7, some(6), again},
		someCase{"After", 5, some(6), again},
		someCase{"Before", 6, some(5), []api.Change{
			rem(5, 3, 0), tree(3, nil, some(5), 0, 6), ins(5, 3, 0), tree(3, some(5), nil, 5, 6)}},
		someCase{"After", 7, some(8), []api.Change{
			rem(8, 3, 3), tree(3, nil, some(8), 7, 0), ins(8, 3, 3), tree(3, some(8), nil, 8, 0)}},
		// kids of h
		someCase{"Prepend", 3, some(5), []api.Change{
			rem(5, 3, 0), tree(3, nil, some(5), 0, 6), ins(5, 3, 0), tree(3, some(5), nil, 5, 6)}},
		someCase{"AppendAll", 6, some(9), []api.Change{
			rem(9, 6, 0), tree(6, nil, some(9), 0, 0), ins(9, 6, 0), tree(6, some(9), nil, 9, 0)}},
		someCase{"ReplaceKids", 6, some(9), []api.Change{rem(9, 6, 0), ins(9, 6, 0), tree(6, some(9), some(9), 0, 0)}},
		// a fragment
		someCase{"Before", 6, some(12), nil},
		someCase{"After", 6, some(13), []api.Change{
			rem(14, 13, 0), tree(13, nil, some(14), 0, 0), ins(14, 3, 2), tree(3, some(14), nil, 6, 7)}},
	)
}

// 9.6: some nodes are gathered in a fragment of h's Doc first, each appended, told.
func TestSomeNodes(t *testing.T) {
	wantSome(t,
		someCase{"AppendAll", 23, some(28, 29), []api.Change{whole(1),
			ins(28, 32, 0), tree(32, some(28), nil, 0, 0), ins(29, 32, 1), tree(32, some(29), nil, 28, 0),
			rem(28, 32, 0), rem(29, 32, 0), tree(32, nil, some(28, 29), 0, 0),
			ins(28, 23, 0), ins(29, 23, 1), tree(23, some(28, 29), nil, 0, 0)}},
		someCase{"Prepend", 3, some(28, 29), []api.Change{whole(1),
			ins(28, 32, 0), tree(32, some(28), nil, 0, 0), ins(29, 32, 1), tree(32, some(29), nil, 28, 0),
			rem(28, 32, 0), rem(29, 32, 0), tree(32, nil, some(28, 29), 0, 0),
			ins(28, 3, 0), ins(29, 3, 1), tree(3, some(28, 29), nil, 0, 5)}},
		someCase{"After", 21, some(14, 30), []api.Change{whole(20),
			rem(14, 13, 0), tree(13, nil, some(14), 0, 0), adopted(14, 20), ins(14, 32, 0), tree(32, some(14), nil, 0, 0),
			adopted(30, 20), ins(30, 32, 1), tree(32, some(30), nil, 14, 0),
			rem(14, 32, 0), rem(30, 32, 0), tree(32, nil, some(14, 30), 0, 0),
			ins(14, 20, 1), ins(30, 20, 2), tree(20, some(14, 30), nil, 21, 0)}},
		// a fragment among them: its kids
		someCase{"ReplaceKids", 23, some(13, 12, 28), []api.Change{whole(1),
			rem(14, 13, 0), tree(13, nil, some(14), 0, 0), ins(14, 32, 0), tree(32, some(14), nil, 0, 0),
			ins(28, 32, 1), tree(32, some(28), nil, 14, 0),
			rem(14, 32, 0), rem(28, 32, 0), tree(32, nil, some(14, 28), 0, 0),
			ins(14, 23, 0), ins(28, 23, 1), tree(23, some(14, 28), nil, 0, 0)}},
		// one that stands twice
		someCase{"AppendAll", 23, some(28, 28), []api.Change{whole(1),
			ins(28, 32, 0), tree(32, some(28), nil, 0, 0),
			rem(28, 32, 0), tree(32, nil, some(28), 0, 0), ins(28, 32, 0), tree(32, some(28), nil, 28, 0),
			rem(28, 32, 0), tree(32, nil, some(28), 0, 0), ins(28, 23, 0), tree(23, some(28), nil, 0, 0)}},
		someCase{"AppendAll", 23, some(28, 29, 28), []api.Change{whole(1),
			ins(28, 32, 0), tree(32, some(28), nil, 0, 0), ins(29, 32, 1), tree(32, some(29), nil, 28, 0),
			rem(28, 32, 0), tree(32, nil, some(28), 0, 29), ins(28, 32, 1), tree(32, some(28), nil, 29, 0),
			rem(29, 32, 0), rem(28, 32, 0), tree(32, nil, some(29, 28), 0, 0),
			ins(29, 23, 0), ins(28, 23, 1), tree(23, some(29, 28), nil, 0, 0)}},
	)
}

// 9.6: siblings of h, and h itself, among some nodes: where they come to stand is asked for without them.
func TestSomeSiblings(t *testing.T) {
	wantSome(t,
		someCase{"Before", 7, some(6, 23), []api.Change{whole(1),
			rem(6, 3, 1), tree(3, nil, some(6), 5, 7), ins(6, 32, 0), tree(32, some(6), nil, 0, 0),
			ins(23, 32, 1), tree(32, some(23), nil, 6, 0),
			rem(6, 32, 0), rem(23, 32, 0), tree(32, nil, some(6, 23), 0, 0),
			ins(6, 3, 1), ins(23, 3, 2), tree(3, some(6, 23), nil, 5, 7)}},
		someCase{"Before", 5, some(6, 5), []api.Change{whole(1),
			rem(6, 3, 1), tree(3, nil, some(6), 5, 7), ins(6, 32, 0), tree(32, some(6), nil, 0, 0),
			rem(5, 3, 0), tree(3, nil, some(5), 0, 7), ins(5, 32, 1), tree(32, some(5), nil, 6, 0),
			rem(6, 32, 0), rem(5, 32, 0), tree(32, nil, some(6, 5), 0, 0),
			ins(6, 3, 0), ins(5, 3, 1), tree(3, some(6, 5), nil, 0, 7)}},
		someCase{"ReplaceWith", 6, some(5, 7), []api.Change{whole(1),
			rem(5, 3, 0), tree(3, nil, some(5), 0, 6), ins(5, 32, 0), tree(32, some(5), nil, 0, 0),
			rem(7, 3, 1), tree(3, nil, some(7), 6, 8), ins(7, 32, 1), tree(32, some(7), nil, 5, 0),
			rem(6, 3, 0), rem(5, 32, 0), rem(7, 32, 0), tree(32, nil, some(5, 7), 0, 0),
			ins(5, 3, 0), ins(7, 3, 1), tree(3, some(5, 7), some(6), 0, 8)}},
		someCase{"ReplaceWith", 6, some(7, 6), []api.Change{whole(1),
			rem(7, 3, 2), tree(3, nil, some(7), 6, 8), ins(7, 32, 0), tree(32, some(7), nil, 0, 0),
			rem(6, 3, 1), tree(3, nil, some(6), 5, 8), ins(6, 32, 1), tree(32, some(6), nil, 7, 0),
			rem(7, 32, 0), rem(6, 32, 0), tree(32, nil, some(7, 6), 0, 0),
			ins(7, 3, 1), ins(6, 3, 2), tree(3, some(7, 6), nil, 5, 8)}},
		someCase{"ReplaceKids", 3, some(7, 5), []api.Change{whole(1),
			rem(7, 3, 2), tree(3, nil, some(7), 6, 8), ins(7, 32, 0), tree(32, some(7), nil, 0, 0),
			rem(5, 3, 0), tree(3, nil, some(5), 0, 6), ins(5, 32, 1), tree(32, some(5), nil, 7, 0),
			rem(6, 3, 0), rem(8, 3, 0), rem(7, 32, 0), rem(5, 32, 0), tree(32, nil, some(7, 5), 0, 0),
			ins(7, 3, 0), ins(5, 3, 1), tree(3, some(7, 5), some(6, 8), 0, 0)}},
	)
	for _, c := range []struct {
		call  string
		h     int
		nodes []int
		kids  []int
	}{
		{"Before", 8, some(7, 6, 5), some(7, 6, 5, 8)},
		{"Before", 8, some(8, 7), some(5, 6, 8, 7)},
		{"After", 5, some(6, 7, 8), some(5, 6, 7, 8)},
		{"After", 5, some(7, 5), some(7, 5, 6, 8)},
		{"After", 8, some(5, 8), some(6, 7, 5, 8)},
		{"ReplaceWith", 8, some(8, 5), some(6, 7, 8, 5)},
		{"ReplaceWith", 5, some(8, 7, 6), some(8, 7, 6)},
		{"Prepend", 3, some(8, 5), some(8, 5, 6, 7)},
		{"Prepend", 3, some(8, 7, 6, 5), some(8, 7, 6, 5)},
		{"AppendAll", 3, some(5, 6), some(7, 8, 5, 6)},
		{"ReplaceKids", 3, some(8, 8, 5), some(8, 5)},
	} {
		wantKids(t, fmt.Sprint(c.call, c.h, c.nodes), got(bySome()[c.call](page(), c.h, c.nodes)), 3, c.kids...)
	}
}

// 9.6: beside a node without a parent nothing is put: no fragment is made, and nothing is refused.
func TestNoParent(t *testing.T) {
	for _, call := range []string{"Before", "After", "ReplaceWith"} {
		for _, h := range []int{1, 10, 12, 23, 28} {
			for _, nodes := range [][]int{nil, {29}, {29, 30}, {h}, {h, h}, {1}, {10, 1}, {2, 29}} {
				wants(t, call, page(), got(bySome()[call](page(), h, nodes)))
			}
		}
	}
}

// 9.6: what may not be gathered, and what may not be put where it is asked for, is refused.
func TestSomeMayNot(t *testing.T) {
	for name, call := range bySome() {
		for _, wrong := range []int{1, 2, 10, 20, 25, 31} {
			for _, nodes := range [][]int{{28, wrong}, {wrong, 28}, {wrong, wrong}} {
				refuses(t, name+": not in a fragment", got(call(page(), 6, nodes)), api.ErrHierarchy)
			}
			refuses(t, name+": alone", got(call(page(), 6, some(wrong))), api.ErrHierarchy)
		}
		refuses(t, name+": what holds h", got(call(page(), 9, some(3))), api.ErrHierarchy)
		refuses(t, name+": what holds h, with another one", got(call(page(), 9, some(3, 23))), api.ErrHierarchy)
		refuses(t, name+": the host of h's tree", got(call(page(), 11, some(6, 23))), api.ErrHierarchy)
	}
	for _, call := range []string{"Prepend", "AppendAll", "ReplaceKids"} {
		for _, h := range []int{2, 4, 5, 29, 30} {
			for _, nodes := range [][]int{nil, {23}, {23, 28}} {
				refuses(t, call+" into what has no kids", got(bySome()[call](page(), h, nodes)), api.ErrHierarchy)
			}
		}
		refuses(t, call+" of texts into a document", got(bySome()[call](page(), 1, some(28, 29))), api.ErrHierarchy)
		refuses(t, call+" of a second element", got(bySome()[call](page(), 1, some(23))), api.ErrHierarchy)
	}
	refuses(t, "a document's element ahead of itself", got(mutate.Before(page(), 3, some(3))), api.ErrHierarchy)
	refuses(t, "a document's element behind itself", got(mutate.After(page(), 3, some(3))), api.ErrHierarchy)
	refuses(t, "a text in a document", got(mutate.ReplaceWith(page(), 3, some(28, 23))), api.ErrHierarchy)
	refuses(t, "where h's fragment is emptied", got(mutate.After(page(), 16, some(15, 28))), api.ErrNotFound)
	wantKids(t, "where h's fragment is emptied, at its end", got(mutate.After(page(), 14, some(13, 28))), 13, 14, 28)
}

// 9.6: a document's element goes with its doctype's leave.
func TestSomeOfDocument(t *testing.T) {
	wantKids(t, "in the place of its element", got(mutate.ReplaceWith(page(), 3, some(23, 8))), 1, 2, 23, 8, 4)
	wantKids(t, "the element with a comment", got(mutate.ReplaceWith(page(), 3, some(8, 3))), 1, 2, 8, 3, 4)
	wantKids(t, "comments to the front", got(mutate.Prepend(page(), 1, some(4, 8))), 1, 4, 8, 2, 3)
	wantKids(t, "all of them", got(mutate.ReplaceKids(page(), 1, some(4, 3))), 1, 4, 3)
}

// 9.6: a fragment is a node more, and so ErrMany where there are MaxNodes, ahead of what may not be; one node needs none.
func TestSomeManyNodes(t *testing.T) {
	last, full := stuffed(api.MaxNodes-1), stuffed(api.MaxNodes)
	for name, call := range bySome() {
		for _, nodes := range [][]int{nil, {28, 29}, {1, 2}} {
			refuses(t, name+" where there are MaxNodes", got(call(full, 6, nodes)), api.ErrMany)
		}
		if a := got(call(full, 6, some(28))); a.why != api.OK || len(a.g.Nodes) != api.MaxNodes {
			t.Errorf("%s of one node, where there are MaxNodes: %d", name, a.why)
		}
		if a := got(call(last, 6, some(28, 29))); a.why != api.OK || len(a.g.Nodes) != api.MaxNodes {
			t.Errorf("%s: the last node: %d", name, a.why)
		}
	}
}

// 9.6: MaxList nodes are taken; more are ErrMany: behind h, but ahead of whether each of them is a node.
func TestLongLists(t *testing.T) {
	most := slices.Repeat(some(28, 29, 23, 28), api.MaxList/4)
	more, none := append(slices.Clone(most), 29), make([]int, api.MaxList+1)
	f := page()
	for name, call := range bySome() {
		a := got(call(f, 6, most))
		if a.why != api.OK || len(a.l) <= api.MaxList {
			t.Errorf("%s of MaxList nodes: %d, %d changes", name, a.why, len(a.l))
		}
		wantAll(t, f, a.g, a.l)
		for _, h := range []int{6, 23, 1} {
			refuses(t, name+" of one more", got(call(f, h, more)), api.ErrMany)
			refuses(t, name+" of one more, of no nodes", got(call(f, h, none)), api.ErrMany)
			refuses(t, name+" of MaxList, of no nodes", got(call(f, h, none[1:])), api.ErrRange)
		}
		for _, h := range []int{0, -1, 32} {
			refuses(t, name+" of one more, at no node", got(call(f, h, more)), api.ErrRange)
		}
		f.Nodes[1].Doc = 20
		refuses(t, name+" of one more, in a wrong forest", got(call(f, 0, more)), api.ErrForest)
		f.Nodes[1].Doc = 1
	}
}

// 9.6, 9.8: as many nodes as there can be go at once.
func TestAllNodes(t *testing.T) {
	f := stuffed(api.MaxNodes - 1)
	var nodes []int
	for h := 32; h < api.MaxNodes; h++ {
		nodes = append(nodes, h)
	}
	a := got(mutate.AppendAll(f, 21, nodes))
	wantKids(t, "AppendAll", a, 21, append([]int{22}, nodes...)...)
	wantAll(t, f, a.g, a.l)
	b := got(mutate.SetContent(a.g, 21, nil))
	wantKids(t, "SetContent", b, 21)
	if len(b.l) != len(nodes)+2 {
		t.Error("SetContent:", len(b.l))
	}
	b = got(mutate.ReplaceWith(a.g, 22, some(21)))
	refuses(t, "by its parent", b, api.ErrHierarchy)
	b = got(mutate.Adopt(a.g, 21, 1))
	for _, h := range nodes {
		if b.g.Nodes[h-1].Doc != 1 {
			t.Fatalf("the Doc of %d is not turned", h)
		}
	}
}
