package bounds_test

import (
	"math"
	"slices"
	"testing"
	"time"

	"canopy/api"
	"canopy/bounds"
	"canopy/forest"
	"canopy/sample"
)

// wantPointRefused has every call that takes points refuse one, at each of its places, with nothing but the error.
func wantPointRefused(t *testing.T, f api.Forest, b api.Bound, no api.Errno) {
	t.Helper()
	if why := bounds.Check(f, b); why != no {
		t.Errorf("Check of %v: error %d, want %d", b, why, no)
	}
	fine := at(1, 0)
	for _, x := range [][2]api.Bound{{b, fine}, {fine, b}, {b, b}} {
		if n, why := bounds.Compare(f, x[0], x[1]); n != 0 || why != no {
			t.Errorf("Compare of %v: %d, error %d, want %d", x, n, why, no)
		}
		r := from(x[0], x[1])
		if is, why := bounds.Valid(f, r); is || why != no {
			t.Errorf("Valid of %v: %v, error %d, want %d", r, is, why, no)
		}
		wantRangeRefused(t, f, r, 1, fine, no)
	}
	wantInRefused(t, f, from(fine, fine), b, no)
}

// wantRangeRefused has every call that takes a valid range refuse one, with a node and a point behind it.
func wantRangeRefused(t *testing.T, f api.Forest, r api.Range, h int, b api.Bound, no api.Errno) {
	t.Helper()
	if got, why := bounds.Common(f, r); got != 0 || why != no {
		t.Errorf("Common of %v: %d, error %d, want %d", r, got, why, no)
	}
	if u, why := bounds.Text(f, r); u != nil || why != no {
		t.Errorf("Text of %v: %v, error %d, want %d", r, u, why, no)
	}
	wantNodeRefused(t, f, r, h, no)
	wantInRefused(t, f, r, b, no)
}

func wantNodeRefused(t *testing.T, f api.Forest, r api.Range, h int, no api.Errno) {
	t.Helper()
	if is, part, why := bounds.Contains(f, r, h); is || part || why != no {
		t.Errorf("Contains of %v, %d: %v, %v, error %d, want %d", r, h, is, part, why, no)
	}
	if is, why := bounds.Meets(f, r, h); is || why != no {
		t.Errorf("Meets of %v, %d: %v, error %d, want %d", r, h, is, why, no)
	}
}

func wantInRefused(t *testing.T, f api.Forest, r api.Range, b api.Bound, no api.Errno) {
	t.Helper()
	if n, why := bounds.In(f, r, b); n != 0 || why != no {
		t.Errorf("In of %v, %v: %d, error %d, want %d", r, b, n, why, no)
	}
}

// 15.1: a forest that is not right goes ahead of all, whatever else is wrong.
func TestTornForest(t *testing.T) {
	for _, f := range sample.Torn() {
		for _, b := range []api.Bound{at(1, 0), at(0, 0), at(99999, -1), at(1, -1), at(2, 77), at(math.MinInt, math.MinInt), at(math.MaxInt, math.MaxInt)} {
			wantPointRefused(t, f, b, api.ErrForest)
			if n, why := bounds.Length(f, b.Node); n != 0 || why != api.ErrForest {
				t.Errorf("Length: %d, error %d", n, why)
			}
			if l, why := bounds.Walk(f, b.Node); l != nil || why != api.ErrForest {
				t.Errorf("Walk: %v, error %d", l, why)
			}
		}
	}
}

// 15.1: then a node that is none.
func TestNoNode(t *testing.T) {
	f := family(t)
	for _, h := range []int{0, -1, len(f.Nodes) + 1, math.MaxInt, math.MinInt} {
		for _, offset := range []int{0, -1, 1, math.MaxInt, math.MinInt} {
			wantPointRefused(t, f, at(h, offset), api.ErrRange)
		}
		if n, why := bounds.Length(f, h); n != 0 || why != api.ErrRange {
			t.Errorf("Length of %d: %d, error %d", h, n, why)
		}
		if l, why := bounds.Walk(f, h); l != nil || why != api.ErrRange {
			t.Errorf("Walk of %d: %v, error %d", h, l, why)
		}
		wantNodeRefused(t, f, from(at(doc, 0), at(doc, 0)), h, api.ErrRange)
	}
	wantPointRefused(t, api.Forest{}, at(1, 0), api.ErrRange)
	if l, why := bounds.Walk(api.Forest{}, 0); l != nil || why != api.ErrRange {
		t.Errorf("Walk of nothing: %v, error %d", l, why)
	}
}

// 15.1: then an offset below 0, or above the length.
func TestNoOffset(t *testing.T) {
	f := family(t)
	for h := 1; h <= len(f.Nodes); h++ {
		for _, offset := range []int{-1, lengths()[h] + 1, math.MaxInt, math.MinInt} {
			wantPointRefused(t, f, at(h, offset), api.ErrIndexSize)
		}
	}
}

// 15.1, 15.3: where several errors hold, all nodes are asked for ahead of all offsets, these ahead of whether the range is valid, and that ahead of the tree of what stands behind.
func TestWhichError(t *testing.T) {
	f := family(t)
	valid, turned, trees := from(at(xy, 1), at(b, 1)), from(at(b, 1), at(xy, 1)), from(at(xy, 1), at(lone, 1))
	wide := from(at(xy, 3), at(b, 1))
	for _, r := range []api.Range{valid, turned, trees, wide, from(at(b, 1), at(xy, -1))} {
		wantNodeRefused(t, f, r, 0, api.ErrRange)
		wantInRefused(t, f, r, at(99, 0), api.ErrRange)
		wantInRefused(t, f, r, at(0, -1), api.ErrRange)
	}
	wantRangeRefused(t, f, from(at(xy, 3), at(99, 0)), xy, at(xy, 0), api.ErrRange)
	wantRangeRefused(t, f, from(at(99, 0), at(xy, 3)), xy, at(xy, 3), api.ErrRange)
	if n, why := bounds.Compare(f, at(xy, 3), at(0, 0)); n != 0 || why != api.ErrRange {
		t.Errorf("Compare: %d, error %d", n, why)
	}
	if n, why := bounds.Compare(f, at(xy, 3), at(lone, 0)); n != 0 || why != api.ErrIndexSize {
		t.Errorf("Compare: %d, error %d", n, why)
	}
	for _, r := range []api.Range{from(at(b, 1), at(xy, -1)), from(at(b, 3), at(xy, 1)), from(at(xy, 3), at(lone, 1)), from(at(xy, 1), at(lone, 3))} {
		wantRangeRefused(t, f, r, xy, at(xy, 0), api.ErrIndexSize)
		wantRangeRefused(t, f, r, lone, at(lone, 0), api.ErrIndexSize)
	}
	for _, r := range []api.Range{turned, trees, from(at(lone, 0), at(doc, 0)), from(at(xy, 2), at(xy, 1)), from(at(e, 0), at(shadow, 0))} {
		wantRangeRefused(t, f, r, xy, at(xy, 0), api.ErrState)
		wantRangeRefused(t, f, r, lone, at(lone, 0), api.ErrState)
		wantInRefused(t, f, r, at(lone, 3), api.ErrIndexSize)
		wantInRefused(t, f, r, at(xy, -1), api.ErrIndexSize)
	}
	wantInRefused(t, f, valid, at(lone, 3), api.ErrIndexSize)
	wantInRefused(t, f, valid, at(lone, 2), api.ErrDocument)
}

// 15.5: no call changes the forest, and what Walk and Text answer is new memory.
func TestNewMemory(t *testing.T) {
	f := sample.Tree(`a(#"xy" b(="z") -"w")`)
	for _, r := range []api.Range{from(at(3, 0), at(3, 2)), from(at(3, 0), at(5, 1)), from(at(3, 2), at(2, 2)), from(at(2, 0), at(5, 1)), from(at(1, 0), at(1, 1))} {
		in := sample.Roomy(f)
		u, why := bounds.Text(in, r)
		was := slices.Clone(u)
		if why != api.OK || !forest.Same(in, f) || sample.Spoilt(in) {
			t.Errorf("%v: error %d, or the forest changes", r, why)
		}
		sample.Spoil(in)
		if !slices.Equal(u, was) {
			t.Errorf("%v: the text changes with the forest", r)
		}
		in = sample.Roomy(f)
		u, _ = bounds.Text(in, r)
		sample.Fill(u, 999)
		if again, _ := bounds.Text(in, r); sample.Spoilt(in) || !slices.Equal(again, was) {
			t.Errorf("%v: the forest changes with the text", r)
		}
	}
	in := sample.Roomy(f)
	first, _ := bounds.Walk(in, 1)
	was := slices.Clone(first)
	sample.Fill(first, at(99, 99))
	if again, why := bounds.Walk(in, 1); why != api.OK || !slices.Equal(again, was) || !forest.Same(in, f) {
		t.Error("Walk hands out what it keeps, or changes the forest")
	}
}

// 15.1 to 15.4: asking changes nothing, of any call.
func TestAskingChangesNothing(t *testing.T) {
	f := family(t)
	in := sample.Roomy(f)
	r := from(at(xy, 1), at(b, 1))
	bounds.Length(in, a)
	bounds.Check(in, at(a, 1))
	bounds.Compare(in, at(a, 1), at(z, 0))
	bounds.Walk(in, a)
	bounds.Valid(in, r)
	bounds.Common(in, r)
	bounds.Contains(in, r, z)
	bounds.In(in, r, at(z, 0))
	bounds.Meets(in, r, z)
	bounds.Text(in, r)
	if !forest.Same(in, f) || sample.Spoilt(in) {
		t.Error("the forest changes")
	}
}

// long is a flat forest of the greatest size, whose texts have some units each.
func long(units int) api.Forest {
	f := sample.Flat(api.MaxNodes)
	for i := range f.Nodes[2:] {
		f.Nodes[2+i].Data = make(api.Units, units)
	}
	return f
}

// P1: the greatest forests, flat and deep, and the longest data are gone through soon.
func TestGreatForests(t *testing.T) {
	started := time.Now()
	f := long(100)
	last := api.MaxNodes
	if l, why := bounds.Walk(f, 1); why != api.OK || len(l) != 2+(last-1)+(last-2)*101 || l[len(l)-2] != at(2, last-2) {
		t.Errorf("Walk: %d points, error %d", len(l), why)
	}
	if u, why := bounds.Text(f, from(at(3, 1), at(last, 1))); why != api.OK || len(u) != 99+(last-4)*100+1 {
		t.Errorf("Text: %d units, error %d", len(u), why)
	}
	for range 20 {
		if n, why := bounds.Compare(f, at(2, last-2), at(last, 100)); n != 1 || why != api.OK {
			t.Errorf("Compare: %d, error %d", n, why)
		}
	}
	deep := sample.Deep(last)
	for range 20 {
		if n, why := bounds.Compare(deep, at(2, 1), at(last, 0)); n != 1 || why != api.OK {
			t.Errorf("Compare: %d, error %d", n, why)
		}
		if h, why := bounds.Common(deep, from(at(2, 0), at(last, 0))); h != 2 || why != api.OK {
			t.Errorf("Common: %d, error %d", h, why)
		}
	}
	if l, why := bounds.Walk(deep, 1); why != api.OK || len(l) != 2*last-1 || l[last-1] != at(last, 0) {
		t.Errorf("Walk: %d points, error %d", len(l), why)
	}
	if took := time.Since(started); took > time.Minute {
		t.Error("it takes too long:", took)
	}
}

// 15.1, 15.2: data as long as they may be, and one beyond.
func TestLongestData(t *testing.T) {
	f := sample.Tree("a(#)")
	f.Nodes[2].Data = make(api.Units, api.MaxData)
	if n, why := bounds.Length(f, 3); n != api.MaxData || why != api.OK {
		t.Errorf("%d, error %d", n, why)
	}
	if l, why := bounds.Walk(f, 3); len(l) != api.MaxData+1 || why != api.OK {
		t.Errorf("%d points, error %d", len(l), why)
	}
	if why := bounds.Check(f, at(3, api.MaxData)); why != api.OK {
		t.Error(why)
	}
	if why := bounds.Check(f, at(3, api.MaxData+1)); why != api.ErrIndexSize {
		t.Error(why)
	}
	if u, why := bounds.Text(f, from(at(3, 0), at(3, api.MaxData))); len(u) != api.MaxData || why != api.OK {
		t.Errorf("%d units, error %d", len(u), why)
	}
	f.Nodes[2].Data = make(api.Units, api.MaxData+1)
	if n, why := bounds.Length(f, 3); n != 0 || why != api.ErrForest {
		t.Errorf("%d, error %d", n, why)
	}
}
