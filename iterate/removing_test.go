package iterate_test

import (
	"slices"
	"testing"

	"canopy/api"
	"canopy/forest"
	"canopy/iterate"
	"canopy/sample"
)

// loss is a removal in the family, ahead of which an iterator stands at a Ref, and where it must stand behind it.
type loss struct{ root, side, ref, node, wantSide, want string }

func losses() []loss {
	return []loss{
		// a node that does not contain Ref
		{"a", "<", "d", "e", "<", "d"},
		{"a", ">", "d", "e", ">", "d"},
		{"a", "<", "d", "c", "<", "d"},
		{"a", ">", "e", "f", ">", "e"},
		{"a", "<", "a", "b", "<", "a"},
		// a node that contains Root
		{"e", "<", "g", "e", "<", "g"},
		{"e", ">", "g", "e", ">", "g"},
		{"e", ">", "g", "a", ">", "g"},
		{"e", "<", "e", "e", "<", "e"},
		{"e", ">", "e", "/", ">", "e"},
		{"j", ">", "j", "j", ">", "j"},
		{"a", "<", "j", "a", "<", "j"},
		// behind Ref: to the last one of the sibling ahead, else to the parent
		{"a", "<", "d", "d", "<", "c"},
		{"a", "<", "e", "e", "<", "d"},
		{"a", "<", "g", "e", "<", "d"},
		{"a", "<", "j", "j", "<", "i"},
		{"a", "<", "i", "i", "<", "h"},
		{"a", "<", "c", "c", "<", "b"},
		{"a", "<", "b", "b", "<", "a"},
		{"a", "<", "d", "b", "<", "a"},
		{"a", "<", "h", "f", "<", "e"},
		{"e", "<", "f", "f", "<", "e"},
		{"f", "<", "g", "g", "<", "f"},
		// ahead of Ref: to the first one behind all within the node
		{"a", ">", "c", "c", ">", "d"},
		{"a", ">", "d", "d", ">", "e"},
		{"a", ">", "b", "b", ">", "e"},
		{"a", ">", "c", "b", ">", "e"},
		{"a", ">", "h", "h", ">", "i"},
		{"a", ">", "g", "f", ">", "i"},
		{"a", ">", "g", "e", ">", "j"},
		{"a", ">", "i", "i", ">", "j"},
		{"/", ">", "i", "i", ">", "j"},
		{"e", ">", "h", "f", ">", "i"},
		{"e", ">", "h", "h", ">", "i"},
		// ahead of Ref, and nothing is behind the node: as if it stood behind
		{"a", ">", "j", "j", "<", "i"},
		{"/", ">", "j", "j", "<", "i"},
		{"/", ">", "g", "a", "<", "/"},
		{"b", ">", "d", "d", "<", "c"},
		{"e", ">", "i", "i", "<", "h"},
		{"f", ">", "h", "h", "<", "g"},
	}
}

// P14.3, case by case.
func TestRemoving(t *testing.T) {
	f := sample.Tree(family)
	for _, x := range losses() {
		for _, flt := range []api.Filter{showAll(), {}, sayings("bdf", "ceij")} {
			it, want := stand(x.root, x.side, x.ref, flt), stand(x.root, x.wantSide, x.want, flt)
			if got, why := iterate.Removing(f, it, handle(x.node)); why != api.OK || !same(got, want) {
				t.Errorf("%+v: %+v, error %d; want %+v", x, got, why, want)
			}
		}
	}
}

// P14.3: an only kid, which has nobody ahead of it or behind it.
func TestRemovingOnlyKid(t *testing.T) {
	f := sample.Tree("a(b(c))")
	for _, side := range []string{"<", ">"} {
		for _, x := range []loss{
			{"a", side, "c", "c", "<", "b"},
			{"b", side, "c", "c", "<", "b"},
			{"a", side, "c", "b", "<", "a"},
			{"/", side, "c", "a", "<", "/"},
		} {
			got, why := iterate.Removing(f, stand(x.root, x.side, x.ref, showAll()), handle(x.node))
			if want := stand(x.root, x.wantSide, x.want, showAll()); why != api.OK || !same(got, want) {
				t.Errorf("%+v: %+v, error %d; want %+v", x, got, why, want)
			}
		}
	}
}

// cut is the removal of a node from the family's tree.
func cut(t *testing.T, f api.Forest, h int) api.Change {
	t.Helper()
	parent := f.Nodes[h-1].Parent
	if parent == 0 {
		t.Fatalf("%d hangs nowhere", h)
	}
	return api.Change{Kind: api.ChangeRemove, Node: h, Parent: parent, Index: slices.Index(f.Nodes[parent-1].Kids, h)}
}

// P14.4: of one removal Fold is Removing, for all iterators at once, in their order.
func TestFoldOfOne(t *testing.T) {
	f := sample.Tree(family)
	for _, node := range []string{"a", "b", "c", "d", "e", "f", "g", "h", "i", "j"} {
		var l, want []api.Iterator
		for _, x := range losses() {
			it := stand(x.root, x.side, x.ref, sayings(x.root, x.ref))
			became, _ := iterate.Removing(f, it, handle(node))
			l, want = append(l, it), append(want, became)
		}
		got, why := iterate.Fold(f, l, []api.Change{cut(t, f, handle(node))})
		if why != api.OK || !slices.EqualFunc(got, want, same) {
			t.Errorf("%s is removed: %+v, error %d; want %+v", node, got, why, want)
		}
	}
}

// P14.4: without changes, and without iterators, there is nothing to do.
func TestFoldOfNone(t *testing.T) {
	f := sample.Tree(family)
	l := []api.Iterator{stand("a", "<", "d", sayings("b", "")), stand("e", ">", "h", showAll())}
	for _, none := range [][]api.Change{nil, {}} {
		if got, why := iterate.Fold(f, l, none); why != api.OK || !slices.EqualFunc(got, l, same) {
			t.Errorf("no changes: %+v, error %d", got, why)
		}
	}
	for _, none := range [][]api.Iterator{nil, {}} {
		if got, why := iterate.Fold(f, none, []api.Change{cut(t, f, 3)}); why != api.OK || len(got) != 0 {
			t.Errorf("no iterators: %+v, error %d", got, why)
		}
	}
	if got, why := iterate.Fold(api.Forest{}, nil, nil); why != api.OK || len(got) != 0 {
		t.Errorf("nothing: %+v, error %d", got, why)
	}
}

// P14.4: changes of other kinds leave iterators, wherever they are; but later removals go by the trees that these have made.
func TestFoldOfOthers(t *testing.T) {
	f := sample.Tree(family)
	e := handle("e")
	l := []api.Iterator{stand("a", "<", "g", showAll()), stand("a", ">", "g", showAll()), stand("a", ">", "j", showAll())}
	changes := []api.Change{
		{Kind: api.ChangeMake, Node: 12, Made: api.Node{Kind: api.KindElement, Name: api.Name{Local: "k"}, Doc: 1}},
		{Kind: api.ChangeShadow, Node: e, Other: 13, Made: api.Node{Kind: api.KindShadow, Mode: api.ShadowOpen}},
		{Kind: api.ChangeMake, Node: 14, Made: api.Node{Kind: api.KindText, Doc: 1}},
		{Kind: api.ChangeMake, Node: 15, Made: api.Node{Kind: api.KindDocument, Doc: 15}},
		{Kind: api.ChangeAdopt, Node: 12, Doc: 15},
		{Kind: api.ChangeAdopt, Node: 12, Doc: 1},
		{Kind: api.ChangeInsert, Node: 14, Parent: 12},
		{Kind: api.ChangeInsert, Node: 12, Parent: 2, Index: 1},
		{Kind: api.ChangeData, Node: 14, Data: api.Units{'x'}},
		{Kind: api.ChangeAttr, Node: e, Name: api.Name{Local: "x"}, Has: true, Value: "y"},
		{Kind: api.ChangeSplit, Node: 14, Other: 14},
		{Kind: api.ChangeMerge, Node: 14, Other: 14},
		{Kind: api.ChangeTree, Parent: 2, Removed: []int{e}},
	}
	for n := range len(changes) + 1 {
		if got, why := iterate.Fold(f, l, changes[:n]); why != api.OK || !slices.EqualFunc(got, l, same) {
			t.Fatalf("%d changes: %+v, error %d", n, got, why)
		}
	}
	// a has b, 12 with the text 14, e, j now: e goes, then j, then 14, then 12.
	for _, x := range []struct {
		gone api.Change
		want [3]api.Iterator
	}{
		{api.Change{Node: e, Parent: 2, Index: 2}, [3]api.Iterator{{Ref: 14}, {Ref: 11, Before: true}, {Ref: 11, Before: true}}},
		{api.Change{Node: 11, Parent: 2, Index: 2}, [3]api.Iterator{{Ref: 14}, {Ref: 14}, {Ref: 14}}},
		{api.Change{Node: 14, Parent: 12, Index: 0}, [3]api.Iterator{{Ref: 12}, {Ref: 12}, {Ref: 12}}},
		{api.Change{Node: 12, Parent: 2, Index: 1}, [3]api.Iterator{{Ref: 5}, {Ref: 5}, {Ref: 5}}},
	} {
		x.gone.Kind = api.ChangeRemove
		changes = append(changes, x.gone)
		got, why := iterate.Fold(f, l, changes)
		if why != api.OK || len(got) != 3 {
			t.Fatalf("%d changes: %+v, error %d", len(changes), got, why)
		}
		for i, want := range x.want {
			want.Root, want.Filter = 2, showAll()
			if !same(got[i], want) {
				t.Errorf("%d changes: %+v, want %+v", len(changes), got[i], want)
			}
		}
	}
}

// P14.4: of many changes each goes by the forest ahead of it: a node that comes back, elsewhere, is followed there.
func TestFoldOfMany(t *testing.T) {
	f := sample.Tree(family)
	b, e, j := handle("b"), handle("e"), handle("j")
	there := []api.Change{
		{Kind: api.ChangeRemove, Node: j, Parent: 2, Index: 2},
		{Kind: api.ChangeInsert, Node: j, Parent: b, Index: 2},
		{Kind: api.ChangeRemove, Node: e, Parent: 2, Index: 1},
		{Kind: api.ChangeRemove, Node: b, Parent: 2, Index: 0},
		{Kind: api.ChangeInsert, Node: e, Parent: 2, Index: 0},
		{Kind: api.ChangeInsert, Node: b, Parent: 2, Index: 1},
	}
	l := []api.Iterator{
		stand("a", "<", "j", showAll()), // i, then within b the last one is j, then a
		stand("a", ">", "g", showAll()), // nothing behind e: the last one of b, j; then a
		stand("a", ">", "c", showAll()), // nothing behind b: a
		stand("b", ">", "d", showAll()), // its root goes with it
		stand("e", "<", "i", showAll()),
		stand("/", "<", "a", showAll()),
	}
	want := []api.Iterator{
		stand("a", "<", "a", showAll()), stand("a", "<", "a", showAll()), stand("a", "<", "a", showAll()),
		stand("b", ">", "d", showAll()), stand("e", "<", "i", showAll()), stand("/", "<", "a", showAll()),
	}
	if got, why := iterate.Fold(f, l, there); why != api.OK || !slices.EqualFunc(got, want, same) {
		t.Errorf("%+v, error %d; want %+v", got, why, want)
	}
	half := []api.Iterator{
		stand("a", "<", "j", showAll()), stand("a", "<", "j", showAll()), stand("a", ">", "c", showAll()),
		stand("b", ">", "d", showAll()), stand("e", "<", "i", showAll()), stand("/", "<", "a", showAll()),
	}
	if got, why := iterate.Fold(f, l, there[:3]); why != api.OK || !slices.EqualFunc(got, half, same) {
		t.Errorf("half way: %+v, error %d; want %+v", got, why, half)
	}
	g, _, why := forest.All(f, there)
	if got, no := iterate.Fold(g, want, []api.Change{cut(t, g, e)}); why != api.OK || no != api.OK || !slices.EqualFunc(got, want, same) {
		t.Errorf("behind: %+v, errors %d, %d", got, why, no)
	}
}
