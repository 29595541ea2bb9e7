package find_test

import (
	"slices"
	"strings"
	"testing"

	"canopy/api"
	"canopy/find"
	"canopy/forest"
)

// wood is a forest that is put together node by node.
type wood struct{ f api.Forest }

func grown(html bool) *wood { return &wood{forest.New(html)} }

// put has a node more, in a parent (0: in none), whose document it gets.
func (w *wood) put(parent int, n api.Node) int {
	h := len(w.f.Nodes) + 1
	n.Doc, n.Parent = 1, parent
	if parent != 0 {
		n.Doc = w.f.Nodes[parent-1].Doc
		w.f.Nodes[parent-1].Kids = append(w.f.Nodes[parent-1].Kids, h)
	}
	w.f.Nodes = append(w.f.Nodes, n)
	return h
}

func (w *wood) element(parent int, n api.Name, l ...api.Attr) int {
	return w.put(parent, api.Node{Kind: api.KindElement, Name: n, Attrs: l})
}

// shadow has a shadow root of an element.
func (w *wood) shadow(host int) int {
	h := w.put(0, api.Node{Kind: api.KindShadow, Host: host, Mode: api.ShadowOpen})
	w.f.Nodes[h-1].Doc = w.f.Nodes[host-1].Doc
	w.f.Nodes[host-1].Shadow = h
	return h
}

// document has a further document.
func (w *wood) document(html bool) int {
	h := w.put(0, api.Node{Kind: api.KindDocument, HTML: html})
	w.f.Nodes[h-1].Doc = h
	return h
}

// right sees that the forest is.
func (w *wood) right(t *testing.T) api.Forest {
	t.Helper()
	if why, at := forest.Check(w.f); why != api.OK {
		t.Fatalf("the test's own forest is not right: at %d", at)
	}
	return w.f
}

func html(local string) api.Name { return api.Name{Space: api.SpaceHTML, Local: local} }

func svg(local string) api.Name { return api.Name{Space: api.SpaceSVG, Local: local} }

func attr(local, value string) api.Attr {
	return api.Attr{Name: api.Name{Local: local}, Value: value}
}

func attrNS(space, prefix, local, value string) api.Attr {
	return api.Attr{Name: api.Name{Space: space, Prefix: prefix, Local: local}, Value: value}
}

// wantList sees that a call answers these elements, and no error.
func wantList(t *testing.T, what string, l []int, why api.Errno, want ...int) {
	t.Helper()
	if why != api.OK || !slices.Equal(l, want) {
		t.Errorf("%s: %v, %d; want %v", what, l, why, want)
	}
}

// wantOne sees that a call answers this, and no error.
func wantOne[T comparable](t *testing.T, what string, one T, why api.Errno, want T) {
	t.Helper()
	if why != api.OK || one != want {
		t.Errorf("%s: %v, %d; want %v", what, one, why, want)
	}
}

// Chapter 11, the first example.
func TestExample(t *testing.T) {
	w := grown(true)
	div := w.element(1, html("div"), attr("id", "a"), attr("class", "x y"))
	b := w.element(div, html("b"))
	f := w.right(t)
	l, why := find.Tag(f, 1, "DIV")
	wantList(t, "Tag of DIV", l, why, div)
	l, why = find.Tag(f, 1, "*")
	wantList(t, "Tag of *", l, why, div, b)
	l, why = find.Class(f, 1, "y x")
	wantList(t, "Class of y x", l, why, div)
	l, why = find.Class(f, 1, "")
	wantList(t, "Class of nothing", l, why)
	h, why := find.Id(f, 1, "a")
	wantOne(t, "Id", h, why, div)
	l, why = find.Kids(f, 1)
	wantList(t, "Kids", l, why, div)
}

// tags has elements of one name in all cases, with and without a prefix, of three namespaces.
func tags(t *testing.T, isHTML bool) api.Forest {
	w := grown(isHTML)
	top := w.element(1, html("top"))
	for _, space := range []string{api.SpaceHTML, api.SpaceSVG} { // 3 to 8, 9 to 14
		for _, local := range []string{"div", "DIV", "dIv"} {
			w.element(top, api.Name{Space: space, Local: local})
			w.element(top, api.Name{Space: space, Prefix: "P", Local: local})
		}
	}
	w.element(top, api.Name{Local: "div"})                                        // 15
	w.element(top, api.Name{Local: "DIV"})                                        // 16
	w.element(top, api.Name{Local: "P:div"})                                      // 17
	w.element(top, api.Name{Space: api.SpaceHTML, Prefix: "p", Local: "div"})     // 18
	w.element(top, api.Name{Space: api.SpaceHTML, Local: "p:div"})                // 19
	w.element(top, api.Name{Space: api.SpaceHTML, Local: "\u00c4\u212a"})         // 20: letters that are not ASCII stay as they are
	w.element(top, api.Name{Space: api.SpaceHTML, Prefix: "p", Local: "p:\xffa"}) // 21
	return w.right(t)
}

// Words, 11.1: a tag is asked in small letters of HTML elements in an HTML document, and just as it is of all others; a prefix belongs to it.
func TestTag(t *testing.T) {
	for _, c := range []struct {
		html bool
		tag  string
		want []int
	}{
		{true, "div", []int{3, 9, 15}},
		{true, "DIV", []int{3, 11, 16}},
		{true, "dIv", []int{3, 13}},
		{true, "Div", []int{3}},
		{true, "P:div", []int{10, 17, 18, 19}},
		{true, "p:div", []int{18, 19}},
		{true, "P:DIV", []int{12, 18, 19}},
		{true, ":div", nil},
		{true, "P:", nil},
		{true, "P", nil},
		{true, "TOP", []int{2}},
		{true, "\u00c4\u212a", []int{20}},
		{true, "\u00e4k", nil},
		{true, "P:P:\xffA", []int{21}},
		{false, "div", []int{3, 9, 15}},
		{false, "DIV", []int{5, 11, 16}},
		{false, "dIv", []int{7, 13}},
		{false, "Div", nil},
		{false, "P:div", []int{4, 10, 17}},
		{false, "p:div", []int{18, 19}},
		{false, "P:DIV", []int{6, 12}},
		{false, "TOP", nil},
		{false, "top", []int{2}},
		{false, "P:P:\xffA", nil},
		{true, "", nil},
		{true, "**", nil},
		{true, " div", nil},
		{false, "", nil},
	} {
		l, why := find.Tag(tags(t, c.html), 1, c.tag)
		wantList(t, "Tag of "+c.tag, l, why, c.want...)
	}
}

// Words: which document counts is that of the root, wherever it hangs: in no document, in another one, in a shadow tree.
func TestTagOfDoc(t *testing.T) {
	w := grown(false)
	other := w.document(true)
	inHTML, inXML := w.element(other, html("a")), w.element(1, html("a"))
	small, great := w.element(inHTML, html("b")), w.element(inHTML, html("B"))
	smallXML, greatXML := w.element(inXML, html("b")), w.element(inXML, html("B"))
	loose := w.element(0, html("a"))
	w.f.Nodes[loose-1].Doc = other
	within := w.element(loose, html("b"))
	root := w.shadow(inHTML)
	shady := w.element(root, html("b"))
	f := w.right(t)
	for root, want := range map[int][2][]int{
		other: {{small}, {small}}, inHTML: {{small}, {small}}, 1: {{smallXML}, {greatXML}}, inXML: {{smallXML}, {greatXML}},
		loose: {{within}, {within}}, root: {{shady}, {shady}}, small: {}, great: {},
	} {
		l, why := find.Tag(f, root, "b")
		wantList(t, "Tag of b", l, why, want[0]...)
		l, why = find.Tag(f, root, "B")
		wantList(t, "Tag of B", l, why, want[1]...)
	}
}

// 11.7: * are all elements, and the tag of what is called * as well.
func TestStar(t *testing.T) {
	w := grown(true)
	top := w.element(1, html("*"))
	a, b := w.element(top, svg("*")), w.element(top, api.Name{Space: "*", Prefix: "*", Local: "a"})
	f := w.right(t)
	l, why := find.Tag(f, 1, "*")
	wantList(t, "Tag of *", l, why, top, a, b)
	l, why = find.Tag(f, 1, "*:a")
	wantList(t, "Tag of *:a", l, why, b)
	l, why = find.TagNS(f, 1, "*", "*")
	wantList(t, "TagNS of *, *", l, why, top, a, b)
	l, why = find.TagNS(f, top, "*", "a")
	wantList(t, "TagNS of *, a", l, why, b)
}

// 11.1: TagNS goes by the namespace and the local name, each as it is; a prefix is no matter.
func TestTagNS(t *testing.T) {
	for _, isHTML := range []bool{true, false} {
		f := tags(t, isHTML)
		for _, c := range []struct {
			space, local string
			want         []int
		}{
			{api.SpaceHTML, "div", []int{3, 4, 18}},
			{api.SpaceHTML, "DIV", []int{5, 6}},
			{api.SpaceSVG, "div", []int{9, 10}},
			{"", "div", []int{15}},
			{"", "*", []int{15, 16, 17}},
			{"*", "div", []int{3, 4, 9, 10, 15, 18}},
			{"*", "p:div", []int{19}},
			{"*", "P:div", []int{17}},
			{"*", "Div", nil},
			{"*", "", nil},
			{api.SpaceSVG, "*", []int{9, 10, 11, 12, 13, 14}},
			{strings.ToUpper(api.SpaceSVG), "*", nil},
			{"P", "*", nil},
			{"**", "*", nil},
			{"*", "*", []int{2, 3, 4, 5, 6, 7, 8, 9, 10, 11, 12, 13, 14, 15, 16, 17, 18, 19, 20, 21}},
		} {
			l, why := find.TagNS(f, 1, c.space, c.local)
			wantList(t, "TagNS of "+c.space+", "+c.local, l, why, c.want...)
		}
	}
}

// Words, 11.1: all of the classes, one at least, in any order and any number of times; whatever document and namespace; the case counts.
func TestClass(t *testing.T) {
	for _, isHTML := range []bool{true, false} {
		w := grown(isHTML)
		top := w.element(1, html("top"), attr("class", "a"))
		w.element(top, svg("a"), attr("class", " b\t\n\fa\rb "))                               // 3
		w.element(top, api.Name{Local: "a"}, attr("x", "a"), attr("class", "a,b ab"))          // 4
		w.element(top, html("b"), attr("class", ""), attr("Class", "a b"))                     // 5
		w.element(top, html("b"), attrNS("u", "", "class", "a b"))                             // 6
		w.element(top, html("b"), attrNS("u", "u", "class", "a b"), attr("class", "A b c\va")) // 7
		w.put(top, api.Node{Kind: api.KindComment, Data: api.Units{'a'}})                      // 8
		w.element(top, html("b"), attr("class", "\xff é \u00a0"))                              // 9
		f := w.right(t)
		for classes, want := range map[string][]int{
			"a": {2, 3}, "b": {3, 7}, "b a": {3}, "a b": {3}, " a\tb\na\f\r": {3}, "a a a": {2, 3}, "A": {7}, "A b": {7}, "a A": nil, "ab": {4}, "a,b": {4}, "ab a,b": {4},
			"": nil, " ": nil, "\t\n\f\r ": nil, "a b c": nil, "c\va": {7}, "\v": nil, "c": nil, "\xff": {9}, "é": {9}, "\u00a0 \xff": {9}, "\u00a0": {9}, "\xfe": nil,
		} {
			l, why := find.Class(f, 1, classes)
			wantList(t, "Class of "+classes, l, why, want...)
		}
		l, why := find.Class(f, top, "a")
		wantList(t, "Class of a within the top", l, why, 3)
	}
}

// 11.1: the first one in tree order that has the id, in the attribute id without a namespace.
func TestId(t *testing.T) {
	w := grown(true)
	top := w.element(1, html("top"), attr("id", "t"))
	w.element(top, html("a"), attrNS("u", "", "id", "x"), attr("ID", "x"), attr("name", "x"))   // 3
	deep := w.element(top, html("a"), attr("id", ""))                                           // 4
	last := w.element(top, svg("a"), attr("id", "x"))                                           // 5
	within := w.element(deep, api.Name{Local: "a"}, attrNS("u", "", "id", ""), attr("id", "x")) // 6
	w.put(top, api.Node{Kind: api.KindInstruction, Name: api.Name{Local: "id"}, Data: api.Units{'x'}})
	f := w.right(t)
	for root, want := range map[int]map[string]int{
		1:      {"t": top, "x": within, "X": 0, "": 0, " x": 0, "*": 0},
		top:    {"t": 0, "x": within, "": 0},
		deep:   {"x": within, "": 0},
		last:   {"x": 0, "": 0},
		within: {"x": 0},
	} {
		for id, h := range want {
			got, why := find.Id(f, root, id)
			wantOne(t, "Id of "+id, got, why, h)
		}
	}
}

// 11.1: Kids are elements among the kids of each kind of node, in order, and nothing deeper.
func TestKids(t *testing.T) {
	w := grown(true)
	w.put(1, api.Node{Kind: api.KindDoctype, Name: api.Name{Local: "a"}})
	w.put(1, api.Node{Kind: api.KindComment})
	top := w.element(1, html("top"))
	a := w.element(top, html("a"))
	text := w.put(top, api.Node{Kind: api.KindText})
	b := w.element(top, svg("b"))
	w.put(top, api.Node{Kind: api.KindCData})
	within := w.element(a, html("a"))
	root := w.shadow(top)
	slot := w.element(root, html("slot"))
	fragment := w.put(0, api.Node{Kind: api.KindFragment})
	w.put(fragment, api.Node{Kind: api.KindInstruction, Name: api.Name{Local: "a"}})
	c, d := w.element(fragment, html("c")), w.element(fragment, html("d"))
	w.f.Nodes[fragment-1].Kids = []int{d, fragment + 1, c}
	f := w.right(t)
	for h, want := range map[int][]int{1: {top}, 2: nil, 3: nil, top: {a, b}, a: {within}, within: nil, text: nil, root: {slot}, fragment: {d, c}, c: nil} {
		l, why := find.Kids(f, h)
		wantList(t, "Kids", l, why, want...)
	}
}

// Words, 11.6: within a root is not the root itself, nor a shadow tree, nor what hangs elsewhere; within a shadow root is its own tree.
func TestWithin(t *testing.T) {
	w := grown(false)
	all := []api.Attr{attr("id", "i"), attr("class", "c")}
	top := w.element(1, html("a"), all...)
	host := w.element(top, html("a"), all...)
	root := w.shadow(host)
	shady := w.element(root, html("a"), all...)
	inner := w.shadow(shady)
	deep := w.element(inner, html("a"), all...)
	light := w.element(host, html("a"), all...)
	w.element(0, html("a"), all...)
	f := w.right(t)
	for at, want := range map[int][]int{1: {top, host, light}, top: {host, light}, host: {light}, light: nil, root: {shady}, shady: nil, inner: {deep}, deep: nil} {
		first := 0
		if len(want) > 0 {
			first = want[0]
		}
		l, why := find.Tag(f, at, "a")
		wantList(t, "Tag", l, why, want...)
		l, why = find.TagNS(f, at, api.SpaceHTML, "a")
		wantList(t, "TagNS", l, why, want...)
		l, why = find.Class(f, at, "c")
		wantList(t, "Class", l, why, want...)
		h, why := find.Id(f, at, "i")
		wantOne(t, "Id", h, why, first)
	}
}
