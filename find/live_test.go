package find_test

import (
	"math"
	"slices"
	"testing"

	"canopy/api"
	"canopy/find"
	"canopy/forest"
	"canopy/sample"
)

// pair is an HTML document with a div, and three elements in it.
func pair(t *testing.T) api.Forest {
	w := grown(true)
	div := w.element(1, html("div"), attr("id", "a"), attr("class", "x y"))
	w.element(div, html("b"), attr("name", "n"))
	w.element(div, svg("b"), attr("name", "s"), attr("id", "i"))
	w.element(div, html("p"), attr("name", "s"), attr("class", "x"))
	return w.right(t)
}

// torn is no right forest.
func torn() api.Forest { return api.Forest{Nodes: []api.Node{{}}} }

func wantAsked(t *testing.T, l *find.Live, want int) {
	t.Helper()
	if n := l.Asked(); n != want {
		t.Errorf("Asked: %d, want %d", n, want)
	}
}

// Chapter 11, the second example; and that a forest that is not right is not looked at where the stamp is the same.
func TestLiveExample(t *testing.T) {
	f, g := pair(t), forest.New(true)
	l := find.New(api.Query{Kind: api.QueryTag, Root: 1, Local: "*"})
	wantAsked(t, l, 0)
	a, why := l.Items(f, 1)
	wantList(t, "Items", a, why, 2, 3, 4, 5)
	a, why = l.Items(g, 1)
	wantList(t, "the same stamp", a, why, 2, 3, 4, 5)
	a, why = l.Items(torn(), 1)
	wantList(t, "the same stamp, of no right forest", a, why, 2, 3, 4, 5)
	wantAsked(t, l, 1)
	a, why = l.Items(g, 2)
	wantList(t, "another stamp", a, why)
	wantAsked(t, l, 2)
	a, why = l.Items(f, 2)
	wantList(t, "none was found by this stamp", a, why)
	wantAsked(t, l, 2)
	a, why = l.Items(f, 1)
	wantList(t, "a stamp that is no more the last one", a, why, 2, 3, 4, 5)
	wantAsked(t, l, 3)
}

// 11.3: each kind finds what its call finds; the fields that it has not are no matter.
func TestLiveKinds(t *testing.T) {
	f := pair(t)
	for _, c := range []struct {
		q    api.Query
		want []int
	}{
		{api.Query{Kind: api.QueryTag, Root: 1, Local: "B", Space: "u"}, []int{3}},
		{api.Query{Kind: api.QueryTag, Root: 1, Local: "b"}, []int{3, 4}},
		{api.Query{Kind: api.QueryTagNS, Root: 1, Space: api.SpaceSVG, Local: "*"}, []int{4}},
		{api.Query{Kind: api.QueryTagNS, Root: 1, Space: "*", Local: "p"}, []int{5}},
		{api.Query{Kind: api.QueryClass, Root: 1, Local: "x", Space: "u"}, []int{2, 5}},
		{api.Query{Kind: api.QueryClass, Root: 2, Local: "x"}, []int{5}},
		{api.Query{Kind: api.QueryKids, Root: 1, Local: "u", Space: "u"}, []int{2}},
		{api.Query{Kind: api.QueryKids, Root: 2}, []int{3, 4, 5}},
		{api.Query{Kind: api.QueryKids, Root: 3}, nil},
	} {
		l, why := find.New(c.q).Items(f, 0)
		wantList(t, "Items", l, why, c.want...)
	}
}

// wantRefused sees that each method of a collection answers an error, and nothing else.
func wantRefused(t *testing.T, l *find.Live, f api.Forest, stamp uint64, want api.Errno) {
	t.Helper()
	if items, why := l.Items(f, stamp); items != nil || why != want {
		t.Errorf("Items: %v, %d; want %d", items, why, want)
	}
	for _, i := range []int{0, -1, 1} {
		if h, why := l.Item(f, stamp, i); h != 0 || why != want {
			t.Errorf("Item: %d, %d; want %d", h, why, want)
		}
	}
	for _, key := range []string{"a", ""} {
		if h, why := l.Named(f, stamp, key); h != 0 || why != want {
			t.Errorf("Named: %d, %d; want %d", h, why, want)
		}
	}
}

// 11.3: a kind that is none is ErrType, whatever the forest is, and nothing is looked for.
func TestNoKind(t *testing.T) {
	for _, k := range []api.QueryKind{api.QueryNone, api.QueryCount, api.QueryCount + 1, 255} {
		for _, root := range []int{1, 0, 99} {
			l := find.New(api.Query{Kind: k, Root: root, Local: "*"})
			wantRefused(t, l, pair(t), 0, api.ErrType)
			wantRefused(t, l, torn(), 1, api.ErrType)
			wantAsked(t, l, 0)
		}
	}
}

// 11.5: a nil collection.
func TestNil(t *testing.T) {
	var l *find.Live
	wantRefused(t, l, pair(t), 0, api.ErrNil)
	wantRefused(t, l, torn(), 1, api.ErrNil)
	wantAsked(t, l, 0)
}

// 11.3: an error is looked for each time anew, and what was found last stays beside it.
func TestLiveErrors(t *testing.T) {
	f := pair(t)
	for _, k := range []api.QueryKind{api.QueryTag, api.QueryTagNS, api.QueryClass, api.QueryKids} {
		l := find.New(api.Query{Kind: k, Root: 2, Space: "*", Local: "*"})
		small := forest.New(true)
		wantRefused(t, l, torn(), 0, api.ErrForest)
		wantAsked(t, l, 6)
		wantRefused(t, l, small, 0, api.ErrRange)
		wantAsked(t, l, 12)
		want, why := l.Items(f, 0)
		if why != api.OK || (len(want) == 0) != (k == api.QueryClass) {
			t.Error("a stamp that was answered by an error:", want, why)
		}
		wantAsked(t, l, 13)
		wantRefused(t, l, torn(), 1, api.ErrForest)
		wantAsked(t, l, 19)
		a, why := l.Items(small, 0)
		wantList(t, "the stamp of what was found last", a, why, want...)
		wantAsked(t, l, 19)
		a, why = l.Items(f, 1)
		wantList(t, "a stamp that was answered by an error", a, why, want...)
		wantAsked(t, l, 20)
	}
	for _, root := range []int{0, -1, 6, math.MaxInt, math.MinInt} {
		wantRefused(t, find.New(api.Query{Kind: api.QueryKids, Root: root}), f, 0, api.ErrRange)
	}
}

// 11.3, 11.4: Items, Item and Named have one stamp in common; any number is one.
func TestOneStamp(t *testing.T) {
	f := pair(t)
	for _, stamp := range []uint64{0, 1, math.MaxUint64} {
		for first := range 3 {
			l := find.New(api.Query{Kind: api.QueryTag, Root: 1, Local: "*"})
			for turn := range 4 {
				switch (first + turn) % 3 {
				case 0:
					a, why := l.Items(f, stamp)
					wantList(t, "Items", a, why, 2, 3, 4, 5)
				case 1:
					h, why := l.Item(f, stamp, 1)
					wantOne(t, "Item", h, why, 3)
				case 2:
					h, why := l.Named(f, stamp, "a")
					wantOne(t, "Named", h, why, 2)
				}
				wantAsked(t, l, 1)
			}
			l.Items(f, stamp+1)
			wantAsked(t, l, 2)
		}
	}
}

// 11.4: the i-th from 0 on; none below 0 and beyond the end.
func TestItem(t *testing.T) {
	f := pair(t)
	l := find.New(api.Query{Kind: api.QueryKids, Root: 2})
	for i, want := range map[int]int{0: 3, 1: 4, 2: 5, 3: 0, 4: 0, -1: 0, -3: 0, math.MaxInt: 0, math.MinInt: 0} {
		h, why := l.Item(f, 7, i)
		wantOne(t, "Item", h, why, want)
	}
	wantAsked(t, l, 1)
	h, why := find.New(api.Query{Kind: api.QueryKids, Root: 3}).Item(f, 7, 0)
	wantOne(t, "Item of none", h, why, 0)
}

// 11.4: by an id, of any element; by a name, of HTML elements alone; the first one of both, in the order of the items.
func TestNamed(t *testing.T) {
	w := grown(false)
	top := w.element(1, svg("svg"), attr("id", "top"), attr("name", "x"))
	w.element(top, svg("a"), attr("name", "x"), attrNS("u", "", "id", "x"))                     // 3
	w.element(top, html("a"), attrNS("u", "", "name", "x"), attr("NAME", "x"), attr("ID", "x")) // 4
	w.element(top, html("a"), attr("name", "x"), attr("id", "y"))                               // 5
	w.element(top, svg("a"), attr("id", "x"))                                                   // 6
	w.element(top, api.Name{Local: "a"}, attr("id", "z"), attr("name", "v"))                    // 7
	w.element(top, html("a"), attr("name", "z"), attr("id", ""))                                // 8
	w.element(top, html("a"), attr("name", "v"), attr("id", "v"))                               // 9
	f := w.right(t)
	l := find.New(api.Query{Kind: api.QueryTag, Root: 1, Local: "*"})
	for key, want := range map[string]int{"x": 5, "y": 5, "z": 7, "v": 9, "top": 2, "": 0, "X": 0, "*": 0} {
		h, why := l.Named(f, 1, key)
		wantOne(t, "Named "+key, h, why, want)
	}
	kids := find.New(api.Query{Kind: api.QueryKids, Root: top})
	h, why := kids.Named(f, 1, "top")
	wantOne(t, "what is none of the items", h, why, 0)
	h, why = find.New(api.Query{Kind: api.QueryTag, Root: 1, Local: "*"}).Named(f, 1, "")
	wantOne(t, "no key", h, why, 0)
	empty := find.New(api.Query{Kind: api.QueryTag, Root: 1, Local: "*"})
	empty.Named(f, 1, "")
	wantAsked(t, empty, 1)
}

// 11.4: with the same stamp names are looked for in the forest that is handed in: what it has not, or has as another kind, is passed over.
func TestNamedElsewhere(t *testing.T) {
	l := find.New(api.Query{Kind: api.QueryTag, Root: 1, Local: "*"})
	l.Items(pair(t), 1)
	other := pair(t)
	other.Nodes[1].Attrs[0].Value = "b"
	other.Nodes[2].Attrs = append(other.Nodes[2].Attrs, attr("id", "a"))
	less := pair(t)
	less.Nodes = less.Nodes[:3]
	text := pair(t)
	text.Nodes[1] = api.Node{Kind: api.KindText, Attrs: []api.Attr{attr("id", "a")}}
	for _, c := range []struct {
		f    api.Forest
		key  string
		want int
	}{
		{other, "a", 3}, {other, "b", 2}, {less, "a", 2}, {less, "i", 0}, {less, "s", 0}, {text, "a", 0}, {text, "n", 3},
		{api.Forest{}, "a", 0}, {torn(), "a", 0}, {forest.New(true), "a", 0},
	} {
		h, why := l.Named(c.f, 1, c.key)
		wantOne(t, "Named "+c.key, h, why, c.want)
	}
	wantAsked(t, l, 1)
}

// P4: two collections have nothing to do with one another.
func TestTwo(t *testing.T) {
	f, q := pair(t), api.Query{Kind: api.QueryTag, Root: 1, Local: "*"}
	a, b := find.New(q), find.New(q)
	a.Items(f, 1)
	items, why := b.Items(forest.New(true), 1)
	wantList(t, "another one with this stamp", items, why)
	items, why = a.Items(f, 1)
	wantList(t, "the first one", items, why, 2, 3, 4, 5)
	wantAsked(t, a, 1)
	wantAsked(t, b, 1)
}

// 11.5: what is answered is written over, and what was found stays; so it does when the forest is written over.
func TestLiveMemory(t *testing.T) {
	for _, k := range []api.QueryKind{api.QueryTag, api.QueryTagNS, api.QueryClass, api.QueryKids} {
		q := api.Query{Kind: k, Root: 2, Space: "*", Local: "*"}
		if k == api.QueryClass {
			q.Local = "x"
		}
		l, f := find.New(q), sample.Roomy(pair(t))
		a, _ := l.Items(f, 1)
		want := slices.Clone(a)
		sample.Fill(a, 999)
		b, _ := l.Items(f, 1)
		sample.Spoil(f)
		c, why := l.Items(f, 1)
		wantList(t, "an earlier answer was written over", b, api.OK, want...)
		wantList(t, "the forest was written over", c, why, want...)
		sample.Fill(b, 999)
		wantList(t, "another answer was written over", c, why, want...)
	}
}
