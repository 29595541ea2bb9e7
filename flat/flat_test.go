package flat_test

import (
	"slices"
	"testing"

	"canopy/api"
	"canopy/flat"
	"canopy/forest"
	"canopy/sample"
)

// some is a list of handles.
func some(h ...int) []int { return h }

func given(slot int, nodes ...int) api.Assign { return api.Assign{Slot: slot, Nodes: nodes} }

// tree is a forest that a text writes out: it is right.
func tree(t *testing.T, text string) api.Forest {
	t.Helper()
	f := sample.Tree(text)
	if why, at := forest.Check(f); why != api.OK {
		t.Fatalf("%s: error %d at %d", text, why, at)
	}
	return f
}

// example is the chapter's: a host with kids for the slot a and for that without a name, and a shadow root with both slots, the second one with a kid.
const example = "h(p:a b){/.a /(i)}"

func wantList(t *testing.T, what string, want []int) func([]int, api.Errno) {
	t.Helper()
	return func(got []int, why api.Errno) {
		t.Helper()
		if why != api.OK || !slices.Equal(got, want) {
			t.Errorf("%s: %v, error %d; want %v", what, got, why, want)
		}
	}
}

// wantKids holds the flat kids of each node, from the first one on, against what they must be.
func wantKids(t *testing.T, f api.Forest, hand []api.Assign, kids ...[]int) {
	t.Helper()
	if len(kids) != len(f.Nodes) {
		t.Fatalf("%d nodes, %d lists", len(f.Nodes), len(kids))
	}
	for i, want := range kids {
		got, why := flat.Kids(f, hand, i+1)
		if why != api.OK || !slices.Equal(got, want) {
			t.Errorf("Kids(%d): %v, error %d; want %v", i+1, got, why, want)
		}
	}
}

// wantParents does so with the flat parents.
func wantParents(t *testing.T, f api.Forest, hand []api.Assign, parents ...int) {
	t.Helper()
	if len(parents) != len(f.Nodes) {
		t.Fatalf("%d nodes, %d parents", len(f.Nodes), len(parents))
	}
	for i, want := range parents {
		if got, why := flat.Parent(f, hand, i+1); why != api.OK || got != want {
			t.Errorf("Parent(%d): %d, error %d; want %d", i+1, got, why, want)
		}
	}
}

// wantSlot holds what a slot comes to, and what is assigned to it, against what it must be.
func wantSlot(t *testing.T, f api.Forest, hand []api.Assign, slot int, comesTo, assigned []int) {
	t.Helper()
	wantList(t, "Flatten", comesTo)(flat.Flatten(f, hand, slot))
	wantList(t, "Nodes, flatten", comesTo)(flat.Nodes(f, hand, slot, true))
	wantList(t, "Nodes", assigned)(flat.Nodes(f, hand, slot, false))
}

func wantAll(t *testing.T, f api.Forest, hand []api.Assign, h int, want ...int) {
	t.Helper()
	wantList(t, "All", want)(flat.All(f, hand, h))
}

// wantRetarget has Seen tell the same.
func wantRetarget(t *testing.T, f api.Forest, a, b, want int) {
	t.Helper()
	if got, why := flat.Retarget(f, a, b); why != api.OK || got != want {
		t.Errorf("Retarget(%d, %d): %d, error %d; want %d", a, b, got, why, want)
	}
	if is, why := flat.Seen(f, a, b); why != api.OK || is != (want == a) {
		t.Errorf("Seen(%d, %d): %v, error %d", a, b, is, why)
	}
}

// Chapter 19, its example, node by node.
func TestExample(t *testing.T) {
	f := tree(t, example)
	wantKids(t, f, nil, some(2), some(6, 7), nil, nil, some(6, 7), some(3), some(4), nil)
	wantParents(t, f, nil, 0, 1, 6, 7, 0, 2, 2, 0)
	wantSlot(t, f, nil, 6, some(3), some(3))
	wantSlot(t, f, nil, 7, some(4), some(4))
	wantAll(t, f, nil, 1, 1, 2, 6, 3, 7, 4)
	wantRetarget(t, f, 6, 1, 2)
}

// 19.1: a slot outside of shadow trees comes to nothing, whatever its kids are: in a document, in a fragment, in what hangs nowhere.
func TestSlotsThatDoNotCount(t *testing.T) {
	f := tree(t, "a(/(b /(c)) #) ~(/(d))")
	f.Nodes = append(f.Nodes, api.Node{Kind: api.KindElement, Name: api.Name{Space: api.SpaceHTML, Local: "slot"}, Doc: 1})
	hand := []api.Assign{given(3, 4), given(5, 6, 7)}
	for _, slot := range some(3, 5, 9, 11) {
		wantSlot(t, f, hand, slot, nil, nil)
	}
	wantKids(t, f, hand, some(2), some(3, 7), some(4, 5), nil, some(6), nil, nil, some(9), some(10), nil, nil)
	wantParents(t, f, hand, 0, 1, 2, 3, 3, 5, 2, 0, 8, 9, 0)
}

// 19.1: to a slot nothing is assigned: it comes to those of its kids that are slottables, and to what slots among these come to.
func TestSlotWithKids(t *testing.T) {
	f := tree(t, `h{/(-"c" #"x" ? b(c) = /.z(- #"y" /.z) s) d(/.z) /.e}`)
	for slot, want := range map[int][]int{4: {6, 8, 10, 13, 15}, 11: {13}, 14: nil, 17: nil, 18: nil} {
		wantSlot(t, f, nil, slot, want, nil)
	}
	wantAll(t, f, nil, 4, 4, 5, 6, 7, 8, 9, 10, 11, 12, 13, 14, 15)
	wantParents(t, f, nil, 0, 1, 0, 2, 4, 4, 4, 4, 8, 4, 4, 11, 11, 11, 4, 2, 16, 2)
}

// 19.1, 19.2: nodes go by their names: to the first slot of that name, or to none.
func TestByName(t *testing.T) {
	f := tree(t, "h(p:a - /:a # q:z){/.a(b) /.b(c) /.a}")
	wantSlot(t, f, nil, 9, some(3, 5), some(3, 5))
	wantSlot(t, f, nil, 11, some(12), nil)
	wantSlot(t, f, nil, 13, nil, nil)
	wantSlot(t, f, nil, 5, nil, nil)
	slots := some(9, 11, 13)
	wantKids(t, f, nil, some(2), slots, nil, nil, nil, nil, nil, slots, some(3, 5), nil, some(12), nil, nil)
	wantParents(t, f, nil, 0, 1, 9, 0, 9, 0, 0, 0, 2, 0, 2, 11, 2)
	for h, want := range map[int][]int{1: {1, 2, 9, 3, 5, 11, 12, 13}, 8: {8, 9, 3, 5, 11, 12, 13}, 9: {9, 3, 5}, 10: {10}, 7: {7}} {
		wantAll(t, f, nil, h, want...)
	}
}

// 19.1, 19.2: where slots are given nodes by hand, names are no matter, nor what is no kid of the host.
func TestByHand(t *testing.T) {
	f := tree(t, "h(p # q:a){*/.a /(b)}")
	wantSlot(t, f, nil, 7, nil, nil)
	wantSlot(t, f, nil, 8, some(9), nil)
	wantParents(t, f, nil, 0, 1, 0, 0, 0, 0, 2, 2, 8)
	hand := []api.Assign{given(8, 5, 3), given(7, 9)}
	wantSlot(t, f, hand, 7, nil, nil)
	wantSlot(t, f, hand, 8, some(5, 3), some(5, 3))
	wantKids(t, f, hand, some(2), some(7, 8), nil, nil, nil, some(7, 8), nil, some(5, 3), nil)
	wantParents(t, f, hand, 0, 1, 8, 0, 8, 0, 2, 2, 0)
	wantAll(t, f, hand, 2, 2, 7, 8, 5, 3)
	named := tree(t, "h(p # q:a){/.a /(b)}")
	wantSlot(t, named, hand, 7, some(5), some(5))
	wantSlot(t, named, hand, 8, some(3, 4), some(3, 4))
}

// 19.1: a slot that is assigned to another one, and counts, is seen as what it comes to: what is assigned to it, its kids, or nothing.
func TestSlotInSlot(t *testing.T) {
	f := tree(t, "h(p){g(/){/}}")
	wantSlot(t, f, nil, 8, some(3), some(6))
	wantSlot(t, f, nil, 6, some(3), some(3))
	wantKids(t, f, nil, some(2), some(5), nil, some(5), some(8), some(3), some(8), some(6))
	wantParents(t, f, nil, 0, 1, 6, 0, 2, 8, 0, 5)
	wantAll(t, f, nil, 1, 1, 2, 5, 8, 6, 3)

	f = tree(t, "h(p:b){g(/.b:a /(q)){/.a(k) d(/)}}")
	wantSlot(t, f, nil, 10, some(3), some(6))
	wantSlot(t, f, nil, 13, some(8), some(7))
	wantAll(t, f, nil, 2, 2, 5, 10, 6, 3, 12, 13, 7, 8)

	f = tree(t, "h{g(/){/(k)}}")
	wantSlot(t, f, nil, 7, nil, some(5))
	wantAll(t, f, nil, 2, 2, 4, 7, 5)
	wantParents(t, f, nil, 0, 1, 0, 2, 7, 0, 4, 0)
}

// 19.1: a slot that is assigned to another one, and does not count, is seen as itself.
func TestSlotOutsideInSlot(t *testing.T) {
	f := tree(t, "h(/(#)){/(b)}")
	wantSlot(t, f, nil, 6, some(3), some(3))
	wantSlot(t, f, nil, 3, nil, nil)
	wantAll(t, f, nil, 2, 2, 6, 3, 4)
	wantParents(t, f, nil, 0, 1, 6, 3, 0, 2, 0)
}

// 19.2: a slot that has a shadow root itself has that one's kids as its flat kids; what is assigned to it is what it comes to all the same.
func TestSlotWithShadowRoot(t *testing.T) {
	f := tree(t, "h(p){/(b){/ c}}")
	wantSlot(t, f, nil, 5, some(3), some(3))
	wantSlot(t, f, nil, 8, some(6), some(6))
	wantKids(t, f, nil, some(2), some(5), nil, some(5), some(8, 9), nil, some(8, 9), some(6), nil)
	wantParents(t, f, nil, 0, 1, 5, 0, 2, 8, 0, 5, 5)
	wantAll(t, f, nil, 1, 1, 2, 5, 8, 6, 9)

	f = tree(t, "a(/(b){/ c})")
	wantSlot(t, f, nil, 3, nil, nil)
	wantSlot(t, f, nil, 6, some(4), some(4))
	wantAll(t, f, nil, 1, 1, 2, 3, 6, 4, 7)

	f = tree(t, "h(p){/(b){c}}")
	wantSlot(t, f, nil, 5, some(3), some(3))
	wantParents(t, f, nil, 0, 1, 5, 0, 2, 0, 0, 5)
	f = tree(t, "h{/(b){c}}")
	wantSlot(t, f, nil, 4, some(5), nil)
	wantParents(t, f, nil, 0, 1, 0, 2, 0, 0, 4)
}

// 19.2: hosts within shadow trees; a host whose shadow root has no slot; a closed one is as good as an open one.
func TestHosts(t *testing.T) {
	f := tree(t, "o(q){x h(p){/} /}")
	wantAll(t, f, nil, 1, 1, 2, 5, 6, 9, 7, 10, 3)
	wantAll(t, f, nil, 4, 4, 5, 6, 9, 7, 10, 3)
	wantAll(t, f, nil, 6, 6, 9, 7)
	wantAll(t, f, nil, 8, 8, 9, 7)
	wantParents(t, f, nil, 0, 1, 10, 0, 2, 2, 9, 0, 6, 2)
	f = tree(t, "h(p - #)[d]")
	wantAll(t, f, nil, 1, 1, 2, 7)
	wantParents(t, f, nil, 0, 1, 0, 0, 0, 0, 2)
	f = tree(t, "h(p -)[]")
	wantAll(t, f, nil, 1, 1, 2)
	wantList(t, "Kids", nil)(flat.Kids(f, nil, 2))
}

// 19.3: as which node another one is seen: in a tree of no shadow root, from within, from deeper, from outside, through two hosts and more.
func TestRetarget(t *testing.T) {
	f := tree(t, "a(b{c(d){e[f]}}) ~(g{i})")
	for _, x := range []struct{ a, b, want int }{
		{2, 1, 2}, {1, 10, 1}, {3, 14, 3}, {11, 2, 11}, {2, 2, 2},
		{5, 5, 5}, {5, 6, 5}, {6, 5, 6}, {4, 5, 4}, {5, 4, 5}, {4, 4, 4},
		{5, 8, 5}, {5, 7, 5}, {4, 10, 4}, {6, 9, 6}, {8, 10, 8},
		{5, 1, 3}, {5, 3, 3}, {4, 2, 3}, {5, 11, 3}, {14, 10, 12}, {13, 1, 12}, {8, 5, 5}, {7, 6, 5}, {10, 8, 8}, {9, 7, 8},
		{8, 1, 3}, {10, 6, 5}, {10, 5, 5}, {10, 3, 3}, {10, 14, 3}, {9, 13, 3}, {7, 2, 3},
	} {
		wantRetarget(t, f, x.a, x.b, x.want)
	}
}
