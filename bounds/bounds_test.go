package bounds_test

import (
	"slices"
	"testing"
	"unicode/utf16"

	"canopy/api"
	"canopy/bounds"
	"canopy/forest"
	"canopy/sample"
)

func at(h, offset int) api.Bound { return api.Bound{Node: h, Offset: offset} }

func from(start, end api.Bound) api.Range { return api.Range{Start: start, End: end} }

func text(u api.Units) string { return string(utf16.Decode(u)) }

// The handles of the family's nodes.
const (
	doc = iota + 1
	doctype
	remark
	a
	xy
	b
	z
	w
	uv
	e
	k
	lone
	fragment
	inFragment
	shadow
	inShadow
)

// family is a document with nodes of all kinds, a text that hangs nowhere, a fragment, and a shadow tree of e.
func family(t *testing.T) api.Forest {
	t.Helper()
	f := sample.Tree(`! -"c" a( #"xy" b(#"z" ="w") -"uv" e ?"k")`)
	f.Nodes = append(f.Nodes,
		api.Node{Kind: api.KindText, Doc: doc, Data: api.Units{'l', 'm'}},
		api.Node{Kind: api.KindFragment, Doc: doc, Kids: []int{inFragment}},
		api.Node{Kind: api.KindElement, Name: api.Name{Local: "g"}, Doc: doc, Parent: fragment},
		api.Node{Kind: api.KindShadow, Doc: doc, Host: e, Mode: api.ShadowOpen, Kids: []int{inShadow}},
		api.Node{Kind: api.KindText, Doc: doc, Parent: shadow, Data: api.Units{'s'}},
	)
	f.Nodes[e-1].Shadow = shadow
	if why, at := forest.Check(f); why != api.OK {
		t.Fatalf("error %d at %d", why, at)
	}
	return f
}

// lengths are those of the family's nodes, by their handles.
func lengths() []int { return []int{0, 3, 0, 1, 5, 2, 2, 1, 1, 2, 0, 1, 2, 1, 0, 1, 1} }

// Chapter 15, the example.
func TestExample(t *testing.T) {
	f := sample.Tree(`a(#"xy" b)`)
	for _, x := range []struct {
		a, b api.Bound
		want int
	}{{at(2, 1), at(3, 1), 1}, {at(2, 0), at(3, 0), -1}, {at(3, 2), at(2, 1), -1}} {
		if n, why := bounds.Compare(f, x.a, x.b); why != api.OK || n != x.want {
			t.Errorf("Compare(%v, %v) = %d, error %d", x.a, x.b, n, why)
		}
	}
	r := from(at(3, 1), at(2, 2))
	if is, part, why := bounds.Contains(f, r, 4); !is || part || why != api.OK {
		t.Error("4:", is, part, why)
	}
	if is, part, why := bounds.Contains(f, r, 3); is || !part || why != api.OK {
		t.Error("3:", is, part, why)
	}
	if u, why := bounds.Text(f, r); text(u) != "y" || why != api.OK {
		t.Error(u, why)
	}
	want := []api.Bound{at(2, 0), at(3, 0), at(3, 1), at(3, 2), at(2, 1), at(4, 0), at(2, 2)}
	if l, why := bounds.Walk(f, 2); !slices.Equal(l, want) || why != api.OK {
		t.Error(l, why)
	}
}

// Words, 15.1: the length of a doctype is 0, that of what has data its units, else its kids.
func TestLength(t *testing.T) {
	f := family(t)
	for h := 1; h <= len(f.Nodes); h++ {
		if n, why := bounds.Length(f, h); why != api.OK || n != lengths()[h] {
			t.Errorf("the length of %d is %d, error %d", h, n, why)
		}
	}
}

// Words, 15.1: points go from 0 to the length.
func TestCheck(t *testing.T) {
	f := family(t)
	for h := 1; h <= len(f.Nodes); h++ {
		n := lengths()[h]
		for offset := -2; offset <= n+2; offset++ {
			want := api.OK
			if offset < 0 || offset > n {
				want = api.ErrIndexSize
			}
			if why := bounds.Check(f, at(h, offset)); why != want {
				t.Errorf("(%d, %d): error %d, want %d", h, offset, why, want)
			}
		}
	}
}

// Words, 15.2: the position, case by case, and turned round.
func TestCompare(t *testing.T) {
	f := family(t)
	for _, x := range []struct {
		a, b api.Bound
		want int
	}{
		// the same, and in one node
		{at(doctype, 0), at(doctype, 0), 0},
		{at(xy, 1), at(xy, 1), 0},
		{at(a, 5), at(a, 5), 0},
		{at(xy, 0), at(xy, 2), -1},
		{at(a, 1), at(a, 2), -1},
		{at(lone, 1), at(lone, 2), -1},
		// in a node and in a kid of it: ahead of the kid, right ahead, right behind, behind
		{at(a, 0), at(b, 0), -1},
		{at(a, 1), at(b, 0), -1},
		{at(a, 1), at(b, 2), -1},
		{at(a, 2), at(b, 0), 1},
		{at(a, 2), at(b, 2), 1},
		{at(a, 5), at(b, 2), 1},
		{at(doc, 0), at(doctype, 0), -1},
		{at(doc, 1), at(doctype, 0), 1},
		// in a node and deeper in it
		{at(a, 1), at(w, 0), -1},
		{at(a, 2), at(w, 1), 1},
		{at(doc, 2), at(w, 1), -1},
		{at(doc, 3), at(w, 0), 1},
		{at(fragment, 0), at(inFragment, 0), -1},
		{at(fragment, 1), at(inFragment, 0), 1},
		{at(shadow, 1), at(inShadow, 1), 1},
		// neither is within the other one
		{at(xy, 2), at(b, 0), -1},
		{at(xy, 0), at(uv, 0), -1},
		{at(xy, 2), at(z, 0), -1},
		{at(w, 1), at(uv, 0), -1},
		{at(z, 1), at(w, 0), -1},
		{at(doctype, 0), at(k, 1), -1},
	} {
		if n, why := bounds.Compare(f, x.a, x.b); why != api.OK || n != x.want {
			t.Errorf("Compare(%v, %v) = %d, error %d; want %d", x.a, x.b, n, why, x.want)
		}
		if n, why := bounds.Compare(f, x.b, x.a); why != api.OK || n != -x.want {
			t.Errorf("Compare(%v, %v) = %d, error %d; want %d", x.b, x.a, n, why, -x.want)
		}
	}
}

// others are points outside the document's tree, each in a tree with no other one.
func others() []api.Bound { return []api.Bound{at(lone, 1), at(inFragment, 0), at(inShadow, 1)} }

// 15.2: points in two trees have no position, not even through a shadow tree.
func TestCompareTrees(t *testing.T) {
	f := family(t)
	for _, b := range append(others(), at(fragment, 1), at(shadow, 0)) {
		for _, in := range []api.Bound{at(doc, 0), at(e, 0), at(xy, 1)} {
			if n, why := bounds.Compare(f, in, b); n != 0 || why != api.ErrDocument {
				t.Errorf("%v, %v: %d, error %d", in, b, n, why)
			}
			if n, why := bounds.Compare(f, b, in); n != 0 || why != api.ErrDocument {
				t.Errorf("%v, %v: %d, error %d", b, in, n, why)
			}
		}
	}
}

// 15.2: Walk has the points of the part that is asked for, each once, in order.
func TestWalk(t *testing.T) {
	f := family(t)
	for root, want := range map[int][]api.Bound{
		doctype:    {at(doctype, 0)},
		e:          {at(e, 0)},
		xy:         {at(xy, 0), at(xy, 1), at(xy, 2)},
		k:          {at(k, 0), at(k, 1)},
		lone:       {at(lone, 0), at(lone, 1), at(lone, 2)},
		b:          {at(b, 0), at(z, 0), at(z, 1), at(b, 1), at(w, 0), at(w, 1), at(b, 2)},
		fragment:   {at(fragment, 0), at(inFragment, 0), at(fragment, 1)},
		inFragment: {at(inFragment, 0)},
		shadow:     {at(shadow, 0), at(inShadow, 0), at(inShadow, 1), at(shadow, 1)},
	} {
		if l, why := bounds.Walk(f, root); why != api.OK || !slices.Equal(l, want) {
			t.Errorf("of %d: %v, error %d; want %v", root, l, why, want)
		}
	}
	part, _ := bounds.Walk(f, a)
	whole := slices.Concat([]api.Bound{at(doc, 0), at(doctype, 0), at(doc, 1), at(remark, 0), at(remark, 1), at(doc, 2)}, part, []api.Bound{at(doc, 3)})
	if l, why := bounds.Walk(f, doc); why != api.OK || !slices.Equal(l, whole) || len(part) != 22 {
		t.Errorf("%v, error %d", l, why)
	}
}

// Words, 15.3: a range is valid from a point to itself or to a later one of its tree.
func TestValid(t *testing.T) {
	f := family(t)
	for _, x := range []struct {
		r    api.Range
		want bool
	}{
		{from(at(doctype, 0), at(doctype, 0)), true},
		{from(at(xy, 1), at(xy, 1)), true},
		{from(at(xy, 1), at(xy, 2)), true},
		{from(at(xy, 2), at(xy, 1)), false},
		{from(at(a, 1), at(b, 0)), true},
		{from(at(b, 0), at(a, 1)), false},
		{from(at(a, 2), at(w, 1)), false},
		{from(at(w, 1), at(a, 2)), true},
		{from(at(doc, 0), at(doc, 3)), true},
		{from(at(lone, 0), at(lone, 2)), true},
		{from(at(shadow, 0), at(inShadow, 1)), true},
		{from(at(doc, 0), at(lone, 0)), false},
		{from(at(lone, 0), at(doc, 3)), false},
		{from(at(e, 0), at(shadow, 0)), false},
		{from(at(fragment, 0), at(shadow, 1)), false},
	} {
		if is, why := bounds.Valid(f, x.r); why != api.OK || is != x.want {
			t.Errorf("%v: %v, error %d", x.r, is, why)
		}
	}
}

// 15.3: the deepest node that is or has the nodes of both ends.
func TestCommon(t *testing.T) {
	f := family(t)
	for _, x := range []struct {
		r    api.Range
		want int
	}{
		{from(at(xy, 0), at(xy, 2)), xy},
		{from(at(doctype, 0), at(doctype, 0)), doctype},
		{from(at(xy, 1), at(w, 1)), a},
		{from(at(z, 0), at(w, 1)), b},
		{from(at(a, 0), at(w, 1)), a},
		{from(at(w, 1), at(a, 5)), a},
		{from(at(b, 0), at(z, 1)), b},
		{from(at(z, 1), at(b, 1)), b},
		{from(at(remark, 1), at(w, 0)), doc},
		{from(at(w, 0), at(doc, 3)), doc},
		{from(at(doc, 0), at(k, 1)), doc},
		{from(at(lone, 0), at(lone, 1)), lone},
		{from(at(fragment, 0), at(inFragment, 0)), fragment},
		{from(at(inShadow, 0), at(shadow, 1)), shadow},
	} {
		if h, why := bounds.Common(f, x.r); why != api.OK || h != x.want {
			t.Errorf("%v: %d, error %d; want %d", x.r, h, why, x.want)
		}
	}
}

// wantContains has all nodes of the family asked for: those that are contained, and those that are so in part, are told by lists.
func wantContains(t *testing.T, f api.Forest, r api.Range, contained, partly []int) {
	t.Helper()
	for h := 1; h <= len(f.Nodes); h++ {
		is, part, why := bounds.Contains(f, r, h)
		if why != api.OK || is != slices.Contains(contained, h) || part != slices.Contains(partly, h) {
			t.Errorf("%v, %d: %v, %v, error %d", r, h, is, part, why)
		}
	}
}

// Words, 15.3: contained, partly contained, neither; the ends' own nodes.
func TestContains(t *testing.T) {
	f := family(t)
	wantContains(t, f, from(at(xy, 1), at(w, 1)), []int{z}, []int{xy, b, w})
	wantContains(t, f, from(at(xy, 0), at(w, 1)), []int{z}, []int{xy, b, w})
	wantContains(t, f, from(at(xy, 2), at(uv, 0)), []int{b, z, w}, []int{xy, uv})
	wantContains(t, f, from(at(a, 0), at(a, 5)), []int{xy, b, z, w, uv, e, k}, nil)
	wantContains(t, f, from(at(a, 1), at(a, 2)), []int{b, z, w}, nil)
	wantContains(t, f, from(at(a, 1), at(b, 1)), []int{z}, []int{b})
	wantContains(t, f, from(at(b, 1), at(a, 3)), []int{w, uv}, []int{b})
	wantContains(t, f, from(at(z, 1), at(doc, 3)), []int{w, uv, e, k}, []int{a, b, z})
	wantContains(t, f, from(at(doc, 0), at(doc, 3)), []int{doctype, remark, a, xy, b, z, w, uv, e, k}, nil)
	wantContains(t, f, from(at(doc, 0), at(xy, 0)), []int{doctype, remark}, []int{a, xy})
	wantContains(t, f, from(at(doctype, 0), at(doc, 2)), []int{remark}, []int{doctype})
	wantContains(t, f, from(at(xy, 0), at(xy, 2)), nil, nil)
	wantContains(t, f, from(at(fragment, 0), at(fragment, 1)), []int{inFragment}, nil)
	wantContains(t, f, from(at(fragment, 0), at(inFragment, 0)), nil, []int{inFragment})
	wantContains(t, f, from(at(inShadow, 0), at(shadow, 1)), nil, []int{inShadow})
	for _, one := range []api.Bound{at(xy, 1), at(b, 0), at(a, 2), at(doc, 3), at(doctype, 0), at(lone, 0)} {
		wantContains(t, f, from(one, one), nil, nil)
	}
}

// 15.3: a point is ahead of a range, in it, or behind it; the ends are in it.
func TestIn(t *testing.T) {
	f := family(t)
	r := from(at(xy, 1), at(b, 1))
	for _, x := range []struct {
		b    api.Bound
		want int
	}{
		{at(doc, 0), -1}, {at(doctype, 0), -1}, {at(a, 0), -1}, {at(xy, 0), -1},
		{at(xy, 1), 0}, {at(xy, 2), 0}, {at(a, 1), 0}, {at(b, 0), 0}, {at(z, 0), 0}, {at(z, 1), 0}, {at(b, 1), 0},
		{at(w, 0), 1}, {at(b, 2), 1}, {at(a, 2), 1}, {at(uv, 0), 1}, {at(a, 5), 1}, {at(doc, 3), 1},
	} {
		if n, why := bounds.In(f, r, x.b); why != api.OK || n != x.want {
			t.Errorf("%v: %d, error %d; want %d", x.b, n, why, x.want)
		}
	}
	for _, b := range others() {
		if n, why := bounds.In(f, r, b); n != 0 || why != api.ErrDocument {
			t.Errorf("%v: %d, error %d", b, n, why)
		}
	}
}

// wantMeets has all nodes of the family asked for.
func wantMeets(t *testing.T, f api.Forest, r api.Range, met ...int) {
	t.Helper()
	for h := 1; h <= len(f.Nodes); h++ {
		if is, why := bounds.Meets(f, r, h); why != api.OK || is != slices.Contains(met, h) {
			t.Errorf("%v, %d: %v, error %d", r, h, is, why)
		}
	}
}

// 15.4: what ends right where a range begins, or begins where it ends, does not meet it; the root always does, a node of another tree never.
func TestMeets(t *testing.T) {
	f := family(t)
	wantMeets(t, f, from(at(xy, 1), at(b, 1)), doc, a, xy, b, z)
	wantMeets(t, f, from(at(xy, 2), at(uv, 0)), doc, a, xy, b, z, w, uv)
	wantMeets(t, f, from(at(a, 1), at(a, 2)), doc, a, b, z, w)
	wantMeets(t, f, from(at(b, 1), at(b, 2)), doc, a, b, w)
	wantMeets(t, f, from(at(doc, 0), at(doc, 3)), doc, doctype, remark, a, xy, b, z, w, uv, e, k)
	wantMeets(t, f, from(at(doc, 1), at(doc, 2)), doc, remark)
	// from a point to itself: what it lies in, but not what begins or ends there
	wantMeets(t, f, from(at(doc, 0), at(doc, 0)), doc)
	wantMeets(t, f, from(at(doc, 3), at(doc, 3)), doc)
	wantMeets(t, f, from(at(a, 1), at(a, 1)), doc, a)
	wantMeets(t, f, from(at(xy, 0), at(xy, 0)), doc, a, xy)
	wantMeets(t, f, from(at(xy, 2), at(xy, 2)), doc, a, xy)
	// other trees
	wantMeets(t, f, from(at(lone, 2), at(lone, 2)), lone)
	wantMeets(t, f, from(at(fragment, 1), at(fragment, 1)), fragment)
	wantMeets(t, f, from(at(shadow, 0), at(shadow, 1)), shadow, inShadow)
}

// 15.4: units of texts of both kinds, those at the ends in part; of nothing else.
func TestText(t *testing.T) {
	f := sample.Tree(`a( #"uvw" ="xyz" b(#"m" -"no" ?"no" c(="n")) #"" -"gh" #"rst")`)
	const (
		a, uvw, xyz, b, m, dash, c, n, gh, rst = 2, 3, 4, 5, 6, 7, 9, 10, 12, 13
	)
	for _, x := range []struct {
		r    api.Range
		want string
	}{
		// within one text
		{from(at(uvw, 0), at(uvw, 3)), "uvw"},
		{from(at(uvw, 1), at(uvw, 2)), "v"},
		{from(at(uvw, 3), at(uvw, 3)), ""},
		{from(at(xyz, 0), at(xyz, 2)), "xy"},
		// from one text to another one
		{from(at(uvw, 1), at(xyz, 1)), "vwx"},
		{from(at(uvw, 2), at(rst, 2)), "wxyzmnrs"},
		{from(at(uvw, 3), at(xyz, 0)), ""},
		{from(at(m, 0), at(n, 1)), "mn"},
		{from(at(xyz, 3), at(rst, 0)), "mn"},
		// ends in nodes that are no texts
		{from(at(1, 0), at(1, 1)), "uvwxyzmnrst"},
		{from(at(a, 0), at(a, 2)), "uvwxyz"},
		{from(at(a, 1), at(a, 1)), ""},
		{from(at(b, 0), at(b, 4)), "mn"},
		{from(at(b, 1), at(c, 1)), "n"},
		{from(at(dash, 0), at(dash, 2)), ""},
		{from(at(dash, 1), at(gh, 1)), "n"},
		{from(at(gh, 0), at(a, 6)), "rst"},
		// one end in a text
		{from(at(uvw, 2), at(a, 2)), "wxyz"},
		{from(at(uvw, 2), at(a, 1)), "w"},
		{from(at(uvw, 1), at(b, 1)), "vwxyzm"},
		{from(at(a, 1), at(xyz, 2)), "xy"},
		{from(at(1, 0), at(uvw, 1)), "u"},
		{from(at(gh, 2), at(rst, 1)), "r"},
	} {
		if u, why := bounds.Text(f, x.r); why != api.OK || text(u) != x.want {
			t.Errorf("%v: %q, error %d; want %q", x.r, text(u), why, x.want)
		}
	}
}

// 15.4: a shadow tree lies not in its host's tree; a text that hangs nowhere has a text of its own.
func TestTextOfTrees(t *testing.T) {
	f := family(t)
	for _, x := range []struct {
		r    api.Range
		want string
	}{
		{from(at(doc, 0), at(doc, 3)), "xyzw"},
		{from(at(shadow, 0), at(shadow, 1)), "s"},
		{from(at(lone, 1), at(lone, 2)), "m"},
		{from(at(fragment, 0), at(fragment, 1)), ""},
		{from(at(doctype, 0), at(remark, 1)), ""},
	} {
		if u, why := bounds.Text(f, x.r); why != api.OK || text(u) != x.want {
			t.Errorf("%v: %q, error %d; want %q", x.r, text(u), why, x.want)
		}
	}
}
