package extract_test

import (
	"slices"
	"testing"

	"canopy/api"
	"canopy/extract"
	"canopy/forest"
	"canopy/sample"
)

func at(h, offset int) api.Bound { return api.Bound{Node: h, Offset: offset} }

func from(start, end api.Bound) api.Range { return api.Range{Start: start, End: end} }

func point(h, offset int) api.Range { return from(at(h, offset), at(h, offset)) }

// of are the units of an ASCII text.
func of(s string) api.Units {
	var u api.Units
	for _, b := range []byte(s) {
		u = append(u, uint16(b))
	}
	return u
}

// The changes that operations are made of.

func ins(node, parent, at int) api.Change {
	return api.Change{Kind: api.ChangeInsert, Node: node, Parent: parent, Index: at}
}

func rem(node, parent, at int) api.Change {
	return api.Change{Kind: api.ChangeRemove, Node: node, Parent: parent, Index: at}
}

func cut(node, offset, count int) api.Change {
	return api.Change{Kind: api.ChangeData, Node: node, Offset: offset, Count: count}
}

func tree(parent int, added, removed []int, prev, next int) api.Change {
	return api.Change{Kind: api.ChangeTree, Parent: parent, Added: added, Removed: removed, Prev: prev, Next: next}
}

func made(h int, n api.Node) api.Change {
	n.Doc = 1
	return api.Change{Kind: api.ChangeMake, Node: h, Made: n}
}

func fragment() api.Node { return api.Node{Kind: api.KindFragment} }

func text(data string) api.Node { return api.Node{Kind: api.KindText, Data: of(data)} }

func element(local string) api.Node {
	return api.Node{Kind: api.KindElement, Name: api.Name{Local: local}}
}

// some is a list of handles, so that it is told apart from another one beside it.
func some(h ...int) []int { return h }

// with is a forest with more nodes, which hang nowhere.
func with(f api.Forest, nodes ...api.Node) api.Forest {
	for _, n := range nodes {
		n.Doc = 1
		f.Nodes = append(f.Nodes, n)
	}
	return f
}

// wants sees that a call did these changes, and has the forest behind them.
func wants(t *testing.T, what string, f api.Forest, a answer, want ...api.Change) {
	t.Helper()
	g, _, why := forest.All(f, want)
	if why != api.OK {
		t.Fatalf("%s: what is wanted can't be done: %d", what, why)
	}
	if a.why != api.OK || !sample.SameChanges(a.l, want) || !forest.Same(a.f, g) {
		t.Errorf("%s: %+v, error %d; want %+v", what, a.l, a.why, want)
	}
}

// refuses sees that a call says why, and nothing else.
func refuses(t *testing.T, what string, a answer, why api.Errno) {
	t.Helper()
	if a.why != why || a.f.Nodes != nil || a.l != nil || a.fragment != 0 || a.left != (api.Range{}) {
		t.Errorf("%s: error %d, want %d; %v", what, a.why, why, a.l)
	}
}

// cases are ranges of trees, what is left of the tree without them, what lies in them, and the point that is left.
func cases() []struct {
	what, tree string
	r          api.Range
	rest, out  string
	left       api.Bound
} {
	return []struct {
		what, tree string
		r          api.Range
		rest, out  string
		left       api.Bound
	}{
		{"a point in a text", `p(#"abc")`, point(3, 1), `p(#"abc")`, "", at(3, 1)},
		{"a point in an element", `p(#"abc" b)`, point(2, 1), `p(#"abc" b)`, "", at(2, 1)},
		{"a point in a document", `p`, point(1, 1), `p`, "", at(1, 1)},
		{"a point in a doctype", `! p`, point(2, 0), `! p`, "", at(2, 0)},
		{"in a text", `p(#"abc")`, from(at(3, 1), at(3, 2)), `p(#"ac")`, `#"b"`, at(3, 1)},
		{"all of a text", `p(#"abc")`, from(at(3, 0), at(3, 3)), `p(#)`, `#"abc"`, at(3, 0)},
		{"in CDATA", `p(="abc")`, from(at(3, 0), at(3, 2)), `p(="c")`, `="ab"`, at(3, 0)},
		{"in a comment", `-"abc"`, from(at(2, 1), at(2, 3)), `-"a"`, `-"bc"`, at(2, 1)},
		{"in an instruction", `?"abc"`, from(at(2, 2), at(2, 3)), `?"ab"`, `?"c"`, at(2, 2)},
		{"in an element, one whole", `p(a b c)`, from(at(2, 1), at(2, 2)), `p(a c)`, `b`, at(2, 1)},
		{"in an element, all wholes", `p(a(x) -"b" #"c")`, from(at(2, 0), at(2, 3)), `p`, `a(x) -"b" #"c"`, at(2, 0)},
		{"in a document", `-"x" ?"y" p(#"z")`, from(at(1, 0), at(1, 3)), ``, `-"x" ?"y" p(#"z")`, at(1, 0)},
		{"Start's node has End's", `p(a #"bcd" e)`, from(at(2, 0), at(4, 2)), `p(#"d" e)`, `a #"bc"`, at(2, 0)},
		{"Start's node has End's, without wholes", `p(a #"bcd" e)`, from(at(2, 1), at(4, 0)), `p(a #"bcd" e)`, `#`, at(2, 1)},
		{"Start's node has End's, deep", `p(a(b(#"cd" e) f) g)`, from(at(2, 0), at(5, 1)), `p(a(b(#"d" e) f) g)`, `a(b(#"c"))`, at(2, 0)},
		{"End's node has Start's", `p(a #"bcd" e)`, from(at(4, 1), at(2, 3)), `p(a #"b")`, `#"cd" e`, at(2, 2)},
		{"End's node has Start's, at its end", `p(#"ab" e)`, from(at(3, 2), at(2, 1)), `p(#"ab" e)`, `#`, at(2, 1)},
		{"End's node has Start's, deep", `p(a(b(#"cd" e) f) g)`, from(at(5, 1), at(2, 2)), `p(a(b(#"c")))`, `a(b(#"d" e) f) g`, at(2, 1)},
		{"neither, texts", `p(#"abc" d #"efg")`, from(at(3, 1), at(5, 2)), `p(#"a" #"g")`, `#"bc" d #"ef"`, at(2, 1)},
		{"neither, no wholes", `p(#"abc" #"efg")`, from(at(3, 1), at(4, 2)), `p(#"a" #"g")`, `#"bc" #"ef"`, at(2, 1)},
		{"neither, a comment and an instruction", `-"abc" p ?"efg"`, from(at(2, 1), at(4, 2)), `-"a" ?"g"`, `-"bc" p ?"ef"`, at(1, 1)},
		{"neither, elements", `p(a(b c) d e(f g))`, from(at(3, 1), at(7, 1)), `p(a(b) e(g))`, `a(c) d e(f)`, at(2, 1)},
		{"neither, empty elements", `p(a b c)`, from(at(3, 0), at(5, 0)), `p(a c)`, `a b c`, at(2, 1)},
		{"neither, deep", `p(a(b(#"cd" e) f) g h(i(j) k(#"lm" n)))`, from(at(5, 1), at(13, 1)), `p(a(b(#"c")) h(k(#"m" n)))`, `a(b(#"d" e) f) g h(i(j) k(#"l"))`, at(2, 1)},
		{"a doctype ahead of it", `! p(#"ab" c)`, from(at(4, 1), at(3, 2)), `! p(#"a")`, `#"b" c`, at(3, 1)},
	}
}

// Words, 17.1: a range is taken out, and the point is left.
func TestExtract(t *testing.T) {
	for _, x := range cases() {
		f := sample.Tree(x.tree)
		a := extracted(f, x.r)
		if a.why != api.OK || a.fragment != len(f.Nodes)+1 || a.f.Nodes[a.fragment-1].Kind != api.KindFragment {
			t.Errorf("%s: fragment %d, error %d", x.what, a.fragment, a.why)
			continue
		}
		if rest, out := sample.Text(a.f, 1), sample.Text(a.f, a.fragment); rest != x.rest || out != x.out || a.left != from(x.left, x.left) {
			t.Errorf("%s: %q, %q, %v; want %q, %q, %v", x.what, rest, out, a.left, x.rest, x.out, x.left)
		}
	}
}

// Words, 17.1: what Copy has in its fragment is the same, and all that there was is as it was.
func TestCopy(t *testing.T) {
	for _, x := range cases() {
		f := sample.Tree(x.tree)
		a := copied(f, x.r)
		if a.why != api.OK || a.fragment != len(f.Nodes)+1 || !forest.Same(api.Forest{Nodes: a.f.Nodes[:len(f.Nodes)]}, f) {
			t.Errorf("%s: fragment %d, error %d, %q", x.what, a.fragment, a.why, sample.Text(a.f, 1))
			continue
		}
		if out := sample.Text(a.f, a.fragment); out != x.out {
			t.Errorf("%s: %q; want %q", x.what, out, x.out)
		}
	}
}

// 17.2: what Delete leaves is what Extract leaves, and it makes no node.
func TestDelete(t *testing.T) {
	for _, x := range cases() {
		f := sample.Tree(x.tree)
		a := deleted(f, x.r)
		if rest := sample.Text(a.f, 1); a.why != api.OK || rest != x.rest || a.left != from(x.left, x.left) || len(a.f.Nodes) != len(f.Nodes) {
			t.Errorf("%s: %q, %v, error %d; want %q, %v", x.what, rest, a.left, a.why, x.rest, x.left)
		}
	}
}

// Words: the changes of a range in one node that has data, one by one.
func TestExtractUnits(t *testing.T) {
	f := sample.Tree(`p(#"abc")`)
	a := extracted(f, from(at(3, 1), at(3, 2)))
	wants(t, "Extract", f, a, made(4, fragment()), made(5, text("b")), ins(5, 4, 0), tree(4, some(5), nil, 0, 0), cut(3, 1, 1))
	wants(t, "Copy", f, copied(f, from(at(3, 1), at(3, 2))), made(4, fragment()), made(5, text("b")), ins(5, 4, 0), tree(4, some(5), nil, 0, 0))
	wants(t, "Delete", f, deleted(f, from(at(3, 1), at(3, 2))), cut(3, 1, 1))
	wants(t, "Extract of a point", f, extracted(f, point(3, 1)), made(4, fragment()))
	wants(t, "Copy of a point", f, copied(f, point(3, 1)), made(4, fragment()))
	wants(t, "Delete of a point", f, deleted(f, point(3, 1)))
}

// Words: the changes of parts with data and without, and of wholes, one by one: the first part first, the last part last.
func TestExtractParts(t *testing.T) {
	f := sample.Tree(`p(#"abc" d(e) f(g #"hi"))`) // p 2, "abc" 3, d 4, e 5, f 6, g 7, "hi" 8
	r := from(at(3, 1), at(8, 1))
	wants(t, "Extract", f, extracted(f, r),
		made(9, fragment()),
		made(10, text("bc")), ins(10, 9, 0), tree(9, some(10), nil, 0, 0), cut(3, 1, 2),
		rem(4, 2, 1), tree(2, nil, some(4), 3, 6), ins(4, 9, 1), tree(9, some(4), nil, 10, 0),
		made(11, element("f")), ins(11, 9, 2), tree(9, some(11), nil, 4, 0),
		made(12, fragment()),
		rem(7, 6, 0), tree(6, nil, some(7), 0, 8), ins(7, 12, 0), tree(12, some(7), nil, 0, 0),
		made(13, text("h")), ins(13, 12, 1), tree(12, some(13), nil, 7, 0), cut(8, 0, 1),
		rem(7, 12, 0), rem(13, 12, 0), tree(12, nil, some(7, 13), 0, 0),
		ins(7, 11, 0), ins(13, 11, 1), tree(11, some(7, 13), nil, 0, 0))
	wants(t, "Copy", f, copied(f, r),
		made(9, fragment()),
		made(10, text("bc")), ins(10, 9, 0), tree(9, some(10), nil, 0, 0),
		made(11, element("d")), made(12, element("e")), ins(12, 11, 0), ins(11, 9, 1), tree(9, some(11), nil, 10, 0),
		made(13, element("f")), ins(13, 9, 2), tree(9, some(13), nil, 11, 0),
		made(14, fragment()),
		made(15, element("g")), ins(15, 14, 0), tree(14, some(15), nil, 0, 0),
		made(16, text("h")), ins(16, 14, 1), tree(14, some(16), nil, 15, 0),
		rem(15, 14, 0), rem(16, 14, 0), tree(14, nil, some(15, 16), 0, 0),
		ins(15, 13, 0), ins(16, 13, 1), tree(13, some(15, 16), nil, 0, 0))
	wants(t, "Delete", f, deleted(f, r),
		cut(3, 1, 2), rem(4, 2, 1), tree(2, nil, some(4), 3, 6), rem(7, 6, 0), tree(6, nil, some(7), 0, 8), cut(8, 0, 1))
}

// 17.2: of what is contained only the outermost goes; data are replaced also where no units go.
func TestDoomed(t *testing.T) {
	f := sample.Tree(`p(#"ab" c(d(e) f) g(h(i) #"jk"))`) // p 2, "ab" 3, c 4, d 5, e 6, f 7, g 8, h 9, i 10, "jk" 11
	a := deleted(f, from(at(3, 2), at(11, 0)))
	wants(t, "Delete", f, a, cut(3, 2, 0), rem(4, 2, 1), tree(2, nil, some(4), 3, 8), rem(9, 8, 0), tree(8, nil, some(9), 0, 11), cut(11, 0, 0))
	if !slices.Equal(a.f.Nodes[3].Kids, some(5, 7)) || !slices.Equal(a.f.Nodes[8].Kids, some(10)) || a.left != point(2, 1) {
		t.Error(a.f, a.left)
	}
	a = deleted(f, from(at(7, 0), at(8, 1)))
	wants(t, "Delete, no data", f, a, rem(9, 8, 0), tree(8, nil, some(9), 0, 11))
	if a.left != point(2, 2) {
		t.Error(a.left)
	}
}

// Words: copies have what their nodes have, but kids, and shadow roots stay where they are.
func TestCopiesOfParts(t *testing.T) {
	f := sample.Tree(`p(a(b c) ?"xy")`) // p 2, a 3, b 4, c 5, ? 6
	f.Nodes[2].Attrs = []api.Attr{{Name: api.Name{Local: "id"}, Value: "v"}}
	f.Nodes[2].Name = api.Name{Space: "urn:x", Prefix: "s", Local: "a"}
	f.Nodes[2].Shadow = 7
	f.Nodes = append(f.Nodes, api.Node{Kind: api.KindShadow, Host: 3, Doc: 1, Mode: api.ShadowOpen})
	for name, call := range map[string]func(api.Forest, api.Range) answer{"Extract": extracted, "Copy": copied} {
		a := call(f, from(at(3, 1), at(6, 1)))
		if a.why != api.OK {
			t.Fatal(name, a.why)
		}
		part := a.f.Nodes[a.f.Nodes[a.fragment-1].Kids[0]-1]
		if part.Name != f.Nodes[2].Name || !slices.Equal(part.Attrs, f.Nodes[2].Attrs) || part.Shadow != 0 || a.f.Nodes[2].Shadow != 7 {
			t.Errorf("%s: %+v", name, part)
		}
		last := a.f.Nodes[a.f.Nodes[a.fragment-1].Kids[1]-1]
		if last.Kind != api.KindInstruction || last.Name.Local != "i" || !slices.Equal(last.Data, of("x")) {
			t.Errorf("%s: %+v", name, last)
		}
	}
	a := extracted(f, from(at(2, 0), at(2, 1)))
	if a.why != api.OK || !slices.Equal(a.f.Nodes[a.fragment-1].Kids, some(3)) || a.f.Nodes[2].Shadow != 7 {
		t.Error("a whole with a shadow root:", a)
	}
}

// Words: the fragment, and what is in it, belong to the document of Start's node.
func TestOtherDocument(t *testing.T) {
	f := sample.Tree(`p`)
	f.Nodes = append(f.Nodes,
		api.Node{Kind: api.KindDocument, Doc: 3, Kids: some(4)},
		api.Node{Kind: api.KindElement, Name: api.Name{Local: "q"}, Parent: 3, Doc: 3, Kids: some(5)},
		api.Node{Kind: api.KindText, Data: of("xyz"), Parent: 4, Doc: 3})
	for name, call := range map[string]func(api.Forest, api.Range) answer{"Extract": extracted, "Copy": copied} {
		for _, r := range []api.Range{from(at(5, 1), at(5, 2)), from(at(5, 1), at(3, 1)), from(at(3, 0), at(3, 1))} {
			a := call(f, r)
			if a.why != api.OK || len(a.f.Nodes) <= len(f.Nodes) {
				t.Fatal(name, a.why)
			}
			for _, n := range a.f.Nodes[len(f.Nodes):] {
				if n.Doc != 3 {
					t.Errorf("%s of %v: %+v", name, r, n)
				}
			}
		}
	}
}

// Words: a whole that is a doctype is refused by Extract, Copy and Surround, but Delete takes it away.
func TestDoctype(t *testing.T) {
	f := with(sample.Tree(`-"ab" ! p(#"cd")`), element("n"))
	for _, r := range []api.Range{from(at(1, 0), at(1, 2)), from(at(1, 1), at(1, 2)), from(at(2, 1), at(1, 3)), from(at(1, 1), at(5, 1)), from(at(2, 0), at(5, 2))} {
		refuses(t, "Extract", extracted(f, r), api.ErrHierarchy)
		refuses(t, "Copy", copied(f, r), api.ErrHierarchy)
		if a := deleted(f, r); a.why != api.OK || a.f.Nodes[2].Parent != 0 {
			t.Errorf("Delete of %v: error %d", r, a.why)
		}
	}
	refuses(t, "Surround", surrounded(f, from(at(1, 0), at(1, 2)), 6), api.ErrHierarchy)
	// an end in the doctype: it would be a part, and is refused as well
	for _, r := range []api.Range{from(at(3, 0), at(1, 3)), from(at(1, 0), at(3, 0)), from(at(3, 0), at(5, 1)), from(at(2, 1), at(3, 0))} {
		refuses(t, "Extract, an end in it", extracted(f, r), api.ErrHierarchy)
		refuses(t, "Copy, an end in it", copied(f, r), api.ErrHierarchy)
		if a := deleted(f, r); a.why != api.OK || a.f.Nodes[2].Parent != 1 {
			t.Errorf("Delete of %v, an end in it: error %d", r, a.why)
		}
		refuses(t, "Surround, an end in it", surrounded(f, r, 6), api.ErrState)
	}
	if a := deleted(f, from(at(3, 0), at(5, 1))); a.left != point(1, 2) || sample.Text(a.f, 1) != `-"ab" ! p(#"d")` {
		t.Error(a.left, sample.Text(a.f, 1))
	}
}

// The chapter's example, and those of the whole document.
func TestExample(t *testing.T) {
	f := with(sample.Tree(`p(#"abc")`), element("b"), text("n"))
	r := from(at(3, 1), at(3, 2))
	a := extracted(f, r)
	if sample.Text(a.f, a.fragment) != `#"b"` || sample.Text(a.f, 1) != `p(#"ac")` || a.left != point(3, 1) {
		t.Error("Extract:", sample.Text(a.f, 1), a.left)
	}
	a = surrounded(f, r, 4)
	if sample.Text(a.f, 1) != `p(#"a" b(#"b") #"c")` || a.left != from(at(2, 1), at(2, 2)) {
		t.Error("Surround:", sample.Text(a.f, 1), a.left)
	}
	a = inserted(f, point(3, 1), 5)
	if sample.Text(a.f, 1) != `p(#"a" #"n" #"bc")` || a.left != from(at(3, 1), at(2, 2)) {
		t.Error("Insert:", sample.Text(a.f, 1), a.left)
	}
}

// 17.1: the handle of the fragment is answered, also where parts have made others behind it.
func TestFragment(t *testing.T) {
	f := sample.Tree(`p(a(b(#"cd")) e(f(#"gh")))`)
	_, h, _, _, why := extract.Extract(f, from(at(5, 1), at(8, 1)))
	if h != 9 || why != api.OK {
		t.Error(h, why)
	}
}
