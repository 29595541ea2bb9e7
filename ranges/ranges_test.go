package ranges_test

import (
	"slices"
	"testing"

	"canopy/api"
	"canopy/bounds"
	"canopy/forest"
	"canopy/mutate"
	"canopy/ranges"
	"canopy/sample"
)

func at(h, offset int) api.Bound { return api.Bound{Node: h, Offset: offset} }

func from(start, end api.Bound) api.Range { return api.Range{Start: start, End: end} }

// The handles of the family's nodes.
const (
	doc = iota + 1
	doctype
	remark
	a
	xy
	b
	z
	w
	uv
	e
	k
	lone
	fragment
	inFragment
	shadow
	inShadow
	loneType
)

// family is a document with nodes of all kinds, a text and a doctype that hang nowhere, a fragment, and a shadow tree of e.
func family(t *testing.T) api.Forest {
	t.Helper()
	f := sample.Tree(`! -"c" a( #"xy" b(#"z" ="w") -"uv" e ?"k")`)
	f.Nodes = append(f.Nodes,
		api.Node{Kind: api.KindText, Doc: doc, Data: api.Units{'l', 'm'}},
		api.Node{Kind: api.KindFragment, Doc: doc, Kids: []int{inFragment}},
		api.Node{Kind: api.KindElement, Name: api.Name{Local: "g"}, Doc: doc, Parent: fragment},
		api.Node{Kind: api.KindShadow, Doc: doc, Host: e, Mode: api.ShadowOpen, Kids: []int{inShadow}},
		api.Node{Kind: api.KindText, Doc: doc, Parent: shadow, Data: api.Units{'s'}},
		api.Node{Kind: api.KindDoctype, Name: api.Name{Local: "d"}, Doc: doc},
	)
	f.Nodes[e-1].Shadow = shadow
	if why, at := forest.Check(f); why != api.OK {
		t.Fatalf("error %d at %d", why, at)
	}
	return f
}

// lengths are those of the family's nodes, by their handles.
func lengths() []int { return []int{0, 3, 0, 1, 5, 2, 2, 1, 1, 2, 0, 1, 2, 1, 0, 1, 1, 0} }

// wantRange has a call answer a range, and no error.
func wantRange(t *testing.T, what string, want api.Range) func(api.Range, api.Errno) {
	t.Helper()
	return func(got api.Range, why api.Errno) {
		t.Helper()
		if got != want || why != api.OK {
			t.Errorf("%s: %v, error %d; want %v", what, got, why, want)
		}
	}
}

// Chapter 16, the first example.
func TestExample(t *testing.T) {
	f := sample.Tree(`p(#"ab" #"cd")`)
	r := from(at(3, 1), at(4, 1))
	wantRange(t, "removing 3", from(at(2, 0), at(4, 1)))(ranges.Adjust(f, r, api.Change{Kind: api.ChangeRemove, Node: 3, Parent: 2}))
	_, l, why := mutate.Normalize(f, 2)
	if why != api.OK {
		t.Fatal(why)
	}
	wantFold(t, "Normalize", f, r, l, from(at(3, 1), at(3, 3)))
	l = splitChanges(t, f, 4, 0)
	wantFold(t, "splitting 4 at 0", f, r, l, from(at(3, 1), at(5, 1)))
}

// Chapter 16, the second example.
func TestExampleErrors(t *testing.T) {
	f := sample.Tree(`p(#"ab" #"cd")`)
	r := from(at(3, 1), at(4, 1))
	if _, why := ranges.Start(f, r, at(1, 9)); why != api.ErrIndexSize {
		t.Error("Start:", why)
	}
	if _, why := ranges.Select(f, r, 1); why != api.ErrNodeType {
		t.Error("Select:", why)
	}
	if _, why := ranges.Compare(f, 4, r, r); why != api.ErrUnsupported {
		t.Error("Compare:", why)
	}
}

// P16.1: a new range has both ends at a document's beginning; nothing else is a document.
func TestNew(t *testing.T) {
	f := family(t)
	f.Nodes = append(f.Nodes, api.Node{Kind: api.KindDocument, Doc: len(f.Nodes) + 1})
	other := len(f.Nodes)
	for h := 1; h <= other; h++ {
		if h == doc || h == other {
			wantRange(t, "New", from(at(h, 0), at(h, 0)))(ranges.New(f, h))
			continue
		}
		if r, why := ranges.New(f, h); r != (api.Range{}) || why != api.ErrType {
			t.Errorf("New of %d: %v, error %d", h, r, why)
		}
	}
}

// P16.1: Collapse has both ends at Start, or at End.
func TestCollapse(t *testing.T) {
	f := family(t)
	for _, r := range []api.Range{from(at(xy, 1), at(b, 1)), from(at(lone, 0), at(lone, 2)), from(at(doc, 0), at(doc, 3)), from(at(a, 2), at(a, 2)), from(at(doctype, 0), at(doctype, 0))} {
		wantRange(t, "Collapse to the start", from(r.Start, r.Start))(ranges.Collapse(f, r, true))
		wantRange(t, "Collapse to the end", from(r.End, r.End))(ranges.Collapse(f, r, false))
	}
}

// P16.2: Start is set; End stays, unless it is ahead of it, or in another tree.
func TestStart(t *testing.T) {
	f := family(t)
	r := from(at(xy, 1), at(b, 1))
	for _, b := range []api.Bound{at(doc, 0), at(remark, 1), at(a, 0), at(xy, 0), at(xy, 1), at(xy, 2), at(a, 1), at(b, 0), at(z, 1), at(b, 1)} {
		wantRange(t, "Start ahead of End", from(b, r.End))(ranges.Start(f, r, b))
	}
	for _, b := range []api.Bound{at(w, 0), at(w, 1), at(b, 2), at(a, 2), at(uv, 0), at(k, 1), at(a, 5), at(doc, 3)} {
		wantRange(t, "Start behind End", from(b, b))(ranges.Start(f, r, b))
	}
	for _, b := range []api.Bound{at(lone, 0), at(lone, 2), at(fragment, 1), at(inFragment, 0), at(shadow, 0), at(inShadow, 1)} {
		wantRange(t, "Start in another tree", from(b, b))(ranges.Start(f, r, b))
	}
}

// P16.2: End is set; Start stays, unless it is behind it, or in another tree.
func TestEnd(t *testing.T) {
	f := family(t)
	r := from(at(xy, 1), at(b, 1))
	for _, b := range []api.Bound{at(xy, 1), at(xy, 2), at(a, 1), at(z, 0), at(b, 1), at(w, 1), at(b, 2), at(a, 2), at(k, 1), at(a, 5), at(doc, 3)} {
		wantRange(t, "End behind Start", from(r.Start, b))(ranges.End(f, r, b))
	}
	for _, b := range []api.Bound{at(doc, 0), at(remark, 0), at(doc, 2), at(a, 0), at(xy, 0)} {
		wantRange(t, "End ahead of Start", from(b, b))(ranges.End(f, r, b))
	}
	for _, b := range []api.Bound{at(lone, 0), at(lone, 2), at(fragment, 1), at(inFragment, 0), at(shadow, 0), at(inShadow, 1)} {
		wantRange(t, "End in another tree", from(b, b))(ranges.End(f, r, b))
	}
}

// P16.3: beside a node is its place in its parent, or 1 more; then as Start and End of that point.
func TestBeside(t *testing.T) {
	f := family(t)
	r := from(at(xy, 1), at(b, 1))
	for _, x := range []struct {
		h           int
		ahead, next api.Bound
	}{
		{doctype, at(doc, 0), at(doc, 1)}, {remark, at(doc, 1), at(doc, 2)}, {a, at(doc, 2), at(doc, 3)},
		{xy, at(a, 0), at(a, 1)}, {b, at(a, 1), at(a, 2)}, {k, at(a, 4), at(a, 5)}, {w, at(b, 1), at(b, 2)},
		{inFragment, at(fragment, 0), at(fragment, 1)}, {inShadow, at(shadow, 0), at(shadow, 1)},
	} {
		for side, point := range map[api.Side]api.Bound{api.SideBefore: x.ahead, api.SideAfter: x.next} {
			start, why := ranges.Start(f, r, point)
			if why != api.OK || start.Start != point {
				t.Fatalf("Start at %v: %v, error %d", point, start, why)
			}
			wantRange(t, "StartBeside", start)(ranges.StartBeside(f, r, side, x.h))
			end, why := ranges.End(f, r, point)
			if why != api.OK || end.End != point {
				t.Fatalf("End at %v: %v, error %d", point, end, why)
			}
			wantRange(t, "EndBeside", end)(ranges.EndBeside(f, r, side, x.h))
		}
	}
	wantRange(t, "End comes along", from(at(a, 2), at(a, 2)))(ranges.StartBeside(f, r, api.SideAfter, b))
	wantRange(t, "Start comes along", from(at(a, 0), at(a, 0)))(ranges.EndBeside(f, r, api.SideBefore, xy))
	wantRange(t, "End stays", from(at(a, 1), at(b, 1)))(ranges.StartBeside(f, r, api.SideAfter, xy))
	wantRange(t, "Start stays", from(at(xy, 1), at(b, 2)))(ranges.EndBeside(f, r, api.SideAfter, w))
}

// roots are the family's nodes that have no parent.
func roots() []int { return []int{doc, lone, fragment, shadow, loneType} }

// P16.3, P16.4: there is no point beside a node that has no parent, and it can't be selected.
func TestRoots(t *testing.T) {
	f := family(t)
	for _, r := range []api.Range{from(at(xy, 1), at(b, 1)), from(at(lone, 0), at(lone, 1))} {
		for _, h := range roots() {
			for _, side := range []api.Side{api.SideBefore, api.SideAfter} {
				wantZero(t, "StartBeside", api.ErrNodeType)(ranges.StartBeside(f, r, side, h))
				wantZero(t, "EndBeside", api.ErrNodeType)(ranges.EndBeside(f, r, side, h))
			}
			wantZero(t, "Select", api.ErrNodeType)(ranges.Select(f, r, h))
		}
	}
}

// P16.4: Select is from right ahead of a node to right behind it, Contents from its beginning to its end, wherever the range was.
func TestSelect(t *testing.T) {
	f := family(t)
	for _, r := range []api.Range{from(at(xy, 1), at(b, 1)), from(at(lone, 0), at(lone, 1)), from(at(doc, 3), at(doc, 3))} {
		for h := 1; h <= len(f.Nodes); h++ {
			if !slices.Contains(roots(), h) {
				parent := f.Nodes[h-1].Parent
				i := slices.Index(f.Nodes[parent-1].Kids, h)
				wantRange(t, "Select", from(at(parent, i), at(parent, i+1)))(ranges.Select(f, r, h))
			}
			if h == doctype || h == loneType {
				wantZero(t, "Contents of a doctype", api.ErrNodeType)(ranges.Contents(f, r, h))
			} else {
				wantRange(t, "Contents", from(at(h, 0), at(h, lengths()[h])))(ranges.Contents(f, r, h))
			}
		}
	}
}

// P16.5: which ends Compare holds against each other.
func TestCompare(t *testing.T) {
	f := family(t)
	for _, x := range []struct {
		r, s api.Range
		want [4]int // by how
	}{
		{from(at(xy, 1), at(b, 1)), from(at(xy, 1), at(b, 1)), [4]int{0, 1, 0, -1}},
		{from(at(a, 0), at(a, 1)), from(at(a, 1), at(a, 2)), [4]int{-1, 0, -1, -1}},
		{from(at(a, 0), at(a, 3)), from(at(a, 1), at(a, 2)), [4]int{-1, 1, 1, -1}},
		{from(at(xy, 0), at(xy, 1)), from(at(b, 0), at(w, 1)), [4]int{-1, -1, -1, -1}},
		{from(at(a, 2), at(a, 2)), from(at(a, 2), at(a, 2)), [4]int{0, 0, 0, 0}},
		{from(at(a, 1), at(w, 0)), from(at(b, 0), at(b, 1)), [4]int{-1, 1, 1, -1}},
		{from(at(doctype, 0), at(doctype, 0)), from(at(doc, 0), at(doc, 3)), [4]int{1, 1, -1, -1}},
	} {
		turned := [4]int{-x.want[0], -x.want[3], -x.want[2], -x.want[1]}
		for how := range 4 {
			if n, why := ranges.Compare(f, how, x.r, x.s); n != x.want[how] || why != api.OK {
				t.Errorf("%d, %v, %v: %d, error %d; want %d", how, x.r, x.s, n, why, x.want[how])
			}
			if n, why := ranges.Compare(f, how, x.s, x.r); n != turned[how] || why != api.OK {
				t.Errorf("%d, %v, %v: %d, error %d; want %d", how, x.s, x.r, n, why, turned[how])
			}
		}
	}
}

// P16.5: ranges in two trees have no position, whatever how is, if it is one.
func TestCompareTrees(t *testing.T) {
	f := family(t)
	r := from(at(xy, 1), at(b, 1))
	for _, s := range []api.Range{from(at(lone, 0), at(lone, 1)), from(at(fragment, 0), at(inFragment, 0)), from(at(shadow, 0), at(shadow, 0)), from(at(loneType, 0), at(loneType, 0))} {
		for how := range 4 {
			if n, why := ranges.Compare(f, how, r, s); n != 0 || why != api.ErrDocument {
				t.Errorf("%d, %v: %d, error %d", how, s, n, why)
			}
			if n, why := ranges.Compare(f, how, s, r); n != 0 || why != api.ErrDocument {
				t.Errorf("%d, %v: %d, error %d", how, s, n, why)
			}
		}
	}
}

// P16.5: Has tells of the points of a range's tree whether they are in it, the ends among them; of others it says no, doctypes and offsets that are none included.
func TestHas(t *testing.T) {
	f := family(t)
	r := from(at(xy, 1), at(b, 1))
	for _, x := range []struct {
		b    api.Bound
		want bool
	}{
		{at(doc, 0), false}, {at(remark, 1), false}, {at(a, 0), false}, {at(xy, 0), false},
		{at(xy, 1), true}, {at(xy, 2), true}, {at(a, 1), true}, {at(b, 0), true}, {at(z, 0), true}, {at(z, 1), true}, {at(b, 1), true},
		{at(w, 0), false}, {at(b, 2), false}, {at(a, 2), false}, {at(k, 0), false}, {at(doc, 3), false},
		{at(lone, 0), false}, {at(lone, 3), false}, {at(lone, -1), false}, {at(fragment, 0), false}, {at(inShadow, 9), false},
		{at(loneType, 0), false}, {at(loneType, 1), false},
	} {
		if is, why := ranges.Has(f, r, x.b); is != x.want || why != api.OK {
			t.Errorf("%v: %v, error %d; want %v", x.b, is, why, x.want)
		}
	}
	alone := from(at(loneType, 0), at(loneType, 0))
	if is, why := ranges.Has(f, alone, at(doctype, 0)); is || why != api.OK {
		t.Errorf("a doctype of another tree: %v, error %d", is, why)
	}
}

// valid tells whether a range is valid.
func valid(t *testing.T, f api.Forest, r api.Range) bool {
	t.Helper()
	is, why := bounds.Valid(f, r)
	return is && why == api.OK
}
