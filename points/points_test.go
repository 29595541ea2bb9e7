package points_test

import (
	"math"
	"slices"
	"testing"

	"canopy/api"
	"canopy/points"
	"canopy/sample"
)

func at(h, offset int) api.Bound { return api.Bound{Node: h, Offset: offset} }

// Numbers rise by one from point to point, as a tree has them, and those of one tree stand together.
func TestNumbers(t *testing.T) {
	f := sample.Tree(`a(#"xy" b(c) -"" d)`)
	f.Nodes = append(f.Nodes, api.Node{Kind: api.KindText, Doc: 1, Data: api.Units{'z'}})
	n, why := points.Of(f)
	if why != api.OK {
		t.Fatal(why)
	}
	for i, b := range []api.Bound{
		at(1, 0), at(2, 0), at(3, 0), at(3, 1), at(3, 2), at(2, 1), at(4, 0), at(5, 0), at(4, 1), at(2, 2), at(6, 0), at(2, 3), at(7, 0), at(2, 4), at(1, 1),
		at(8, 0), at(8, 1),
	} {
		if got := n.Number(b); got != i {
			t.Errorf("%v has the number %d, not %d", b, got, i)
		}
	}
}

// Nodes of two trees are told from those of one, and nodes that have others from those that have them not.
func TestTrees(t *testing.T) {
	f := sample.Tree("a(b(c) d)")
	f.Nodes = append(f.Nodes, api.Node{Kind: api.KindFragment, Doc: 1})
	n, _ := points.Of(f)
	holds := map[[2]int]int{{2, 3}: 1, {2, 4}: 1, {2, 5}: 1, {3, 4}: 1}
	for a := 1; a <= 6; a++ {
		for b := 1; b <= 6; b++ {
			one := (a == 6) == (b == 6)
			if n.OneTree(a, b) != one {
				t.Errorf("OneTree of %d and %d is %v", a, b, !one)
			}
			want := a == b || a == 1 && one || holds[[2]int{a, b}] == 1
			if n.Holds(a, b) != want {
				t.Errorf("Holds of %d and %d is %v", a, b, !want)
			}
		}
	}
}

// All nodes are asked for ahead of all offsets; a forest that is not right has no numbers.
func TestWrong(t *testing.T) {
	n, _ := points.Of(sample.Tree(`!a(#"xy")`))
	for _, x := range []struct {
		some []api.Bound
		want api.Errno
	}{
		{nil, api.OK},
		{[]api.Bound{at(1, 2), at(2, 0), at(3, 1), at(4, 2)}, api.OK},
		{[]api.Bound{at(4, 3)}, api.ErrIndexSize},
		{[]api.Bound{at(2, 1)}, api.ErrIndexSize},
		{[]api.Bound{at(1, 0), at(4, -1)}, api.ErrIndexSize},
		{[]api.Bound{at(4, math.MaxInt), at(0, 0)}, api.ErrRange},
		{[]api.Bound{at(math.MinInt, math.MinInt)}, api.ErrRange},
		{[]api.Bound{at(5, 0), at(4, 3)}, api.ErrRange},
	} {
		if got := n.Wrong(x.some...); got != x.want {
			t.Errorf("%v: error %d, want %d", x.some, got, x.want)
		}
	}
	for i, f := range sample.Torn() {
		if _, why := points.Of(f); why != api.ErrForest {
			t.Errorf("the torn forest %d: error %d", i, why)
		}
	}
}

// A range is valid from a point to the same or a later one of its tree.
func TestValid(t *testing.T) {
	f := sample.Tree(`a(#"xy" b)`)
	f.Nodes = append(f.Nodes, api.Node{Kind: api.KindFragment, Doc: 1})
	n, _ := points.Of(f)
	for _, x := range []struct {
		from, to api.Bound
		want     bool
	}{
		{at(3, 1), at(3, 1), true}, {at(3, 1), at(2, 1), true}, {at(2, 1), at(3, 1), false}, {at(5, 0), at(5, 0), true}, {at(2, 0), at(5, 0), false}, {at(5, 0), at(2, 0), false},
	} {
		if got := n.Valid(api.Range{Start: x.from, End: x.to}); got != x.want {
			t.Errorf("from %v to %v: %v", x.from, x.to, got)
		}
	}
}

// A node is contained in a range if all its points are between the ends, and no node of another tree is.
func TestContained(t *testing.T) {
	f := sample.Tree(`a(#"xy" b(c) d)`)
	f.Nodes = append(f.Nodes, api.Node{Kind: api.KindFragment, Doc: 1})
	n, _ := points.Of(f)
	for _, x := range []struct {
		from, to api.Bound
		want     []int
	}{
		{at(2, 0), at(2, 3), []int{3, 4, 5, 6}}, {at(1, 0), at(1, 1), []int{2, 3, 4, 5, 6}}, {at(3, 0), at(2, 2), []int{4, 5}},
		{at(3, 2), at(4, 1), []int{5}}, {at(4, 0), at(6, 0), []int{5}}, {at(2, 2), at(2, 2), nil}, {at(7, 0), at(7, 0), nil},
	} {
		var got []int
		for h := 1; h <= len(f.Nodes); h++ {
			if n.Contained(api.Range{Start: x.from, End: x.to}, h) {
				got = append(got, h)
			}
		}
		if !slices.Equal(got, x.want) {
			t.Errorf("from %v to %v: %v, not %v", x.from, x.to, got, x.want)
		}
	}
}
