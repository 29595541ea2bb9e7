package forest_test

import (
	"math"
	"slices"
	"strings"
	"testing"

	"canopy/api"
	"canopy/forest"
	"canopy/sample"
)

func local(s string) api.Name { return api.Name{Local: s} }

func attr(local string) api.Attr { return api.Attr{Name: api.Name{Local: local}, Value: "v"} }

// wood has all nine kinds, a shadow tree, two documents, and nodes that hang nowhere.
func wood() api.Forest {
	return api.Forest{Nodes: []api.Node{
		{Kind: api.KindDocument, Kids: []int{2, 3, 4, 5}, Doc: 1, HTML: true},
		{Kind: api.KindComment, Data: api.Units{1, 2}, Parent: 1, Doc: 1},
		{Kind: api.KindDoctype, Name: local("html"), Public: "p", System: "s", Parent: 1, Doc: 1},
		{Kind: api.KindElement, Name: local("a"), Attrs: []api.Attr{attr("x"), attr("y")}, Parent: 1, Kids: []int{6, 7, 8}, Doc: 1},
		{Kind: api.KindInstruction, Name: local("go"), Data: api.Units{3}, Parent: 1, Doc: 1},
		{Kind: api.KindText, Data: api.Units{4, 5, 6}, Parent: 4, Doc: 1},
		{Kind: api.KindCData, Data: api.Units{7}, Parent: 4, Doc: 1},
		{Kind: api.KindElement, Name: api.Name{Space: "u", Prefix: "p", Local: "b"}, Parent: 4, Doc: 1, Shadow: 9},
		{Kind: api.KindShadow, Kids: []int{10}, Doc: 1, Host: 8, Mode: api.ShadowClosed, Manual: true},
		{Kind: api.KindElement, Name: local("c"), Parent: 9, Doc: 1},
		{Kind: api.KindFragment, Kids: []int{12}, Doc: 1},
		{Kind: api.KindComment, Parent: 11, Doc: 1},
		{Kind: api.KindDocument, Doc: 13},
		{Kind: api.KindElement, Name: local("d"), Doc: 13},
	}}
}

// byKind is a node of wood of each kind.
func byKind() map[api.NodeKind]int {
	at := map[api.NodeKind]int{}
	for i, n := range wood().Nodes {
		if at[n.Kind] == 0 {
			at[n.Kind] = i + 1
		}
	}
	return at
}

// kinds are the nine.
func kinds() []api.NodeKind {
	return []api.NodeKind{
		api.KindElement, api.KindText, api.KindCData, api.KindInstruction, api.KindComment,
		api.KindDocument, api.KindDoctype, api.KindFragment, api.KindShadow,
	}
}

func wantCheck(t *testing.T, what string, f api.Forest, why api.Errno, at int) {
	t.Helper()
	if gotWhy, gotAt := forest.Check(f); gotWhy != why || gotAt != at {
		t.Errorf("%s: Check = %d, %d; want %d, %d", what, gotWhy, gotAt, why, at)
	}
}

// 3.1: New is one document, HTML as it is told.
func TestNew(t *testing.T) {
	for _, html := range []bool{false, true} {
		f := forest.New(html)
		want := api.Forest{Nodes: []api.Node{{Kind: api.KindDocument, Doc: 1, HTML: html}}}
		if !forest.Same(f, want) || len(f.Nodes) != 1 || f.Nodes[0].HTML != html {
			t.Errorf("New(%t) = %v", html, f)
		}
		wantCheck(t, "New", f, api.OK, 0)
	}
}

// 3.1: right forests are OK: none at all, all kinds, as many nodes as may be; one more is too many, at no node.
func TestCheckRight(t *testing.T) {
	wantCheck(t, "nil", api.Forest{}, api.OK, 0)
	wantCheck(t, "empty", api.Forest{Nodes: []api.Node{}}, api.OK, 0)
	wantCheck(t, "wood", wood(), api.OK, 0)
	if len(byKind()) != 9 {
		t.Error("wood has not all kinds:", byKind())
	}
	wantCheck(t, "flat", flat(api.MaxNodes), api.OK, 0)
	wantCheck(t, "tall", tall(api.MaxNodes), api.OK, 0)
	wantCheck(t, "one more", flat(api.MaxNodes+1), api.ErrForest, 0)
	bad := flat(api.MaxNodes + 1)
	bad.Nodes[0].Kind = 0
	wantCheck(t, "one more, and not right besides", bad, api.ErrForest, 0)
}

// flat is a document, an element, and n - 2 texts in it.
func flat(n int) api.Forest {
	f := api.Forest{Nodes: []api.Node{
		{Kind: api.KindDocument, Kids: []int{2}, Doc: 1},
		{Kind: api.KindElement, Name: local("a"), Parent: 1, Doc: 1},
	}}
	for h := 3; h <= n; h++ {
		f.Nodes = append(f.Nodes, api.Node{Kind: api.KindText, Parent: 2, Doc: 1})
		f.Nodes[1].Kids = append(f.Nodes[1].Kids, h)
	}
	return f
}

// tall is a document and n - 1 elements, each in the one ahead of it.
func tall(n int) api.Forest {
	f := forest.New(false)
	for h := 2; h <= n; h++ {
		f.Nodes[h-2].Kids = []int{h}
		f.Nodes = append(f.Nodes, api.Node{Kind: api.KindElement, Name: local("a"), Parent: h - 1, Doc: 1})
	}
	return f
}

// Words (well made): there are nine kinds.
func TestKinds(t *testing.T) {
	for k := range 256 {
		f := forest.New(false)
		f.Nodes = append(f.Nodes, api.Node{Kind: api.NodeKind(k), Doc: 1})
		switch n := &f.Nodes[1]; n.Kind {
		case api.KindElement, api.KindDoctype, api.KindInstruction:
			n.Name.Local = "a"
		case api.KindDocument:
			n.Doc = 2
		case api.KindShadow:
			n.Host, n.Mode = 3, api.ShadowOpen
			f.Nodes = append(f.Nodes, api.Node{Kind: api.KindElement, Name: local("a"), Doc: 1, Shadow: 2})
		}
		if slices.Contains(kinds(), api.NodeKind(k)) {
			wantCheck(t, "a kind", f, api.OK, 0)
		} else {
			wantCheck(t, "no kind", f, api.ErrForest, 2)
		}
	}
}

// setters turn one field of a node each, to something that no other node has a word in, if the kind has the field.
var setters = map[string]func(n *api.Node){
	"Space":  func(n *api.Node) { n.Name.Space = "u" },
	"Prefix": func(n *api.Node) { n.Name.Space, n.Name.Prefix = "u", "q" },
	"Local":  func(n *api.Node) { n.Name.Local = "z" },
	"Public": func(n *api.Node) { n.Public = "z" },
	"System": func(n *api.Node) { n.System = "z" },
	"Data":   func(n *api.Node) { n.Data = api.Units{9} },
	"Attrs":  func(n *api.Node) { n.Attrs = []api.Attr{attr("z")} },
	"Mode":   func(n *api.Node) { n.Mode = api.ShadowOpen },
	"Manual": func(n *api.Node) { n.Manual = true },
	"HTML":   func(n *api.Node) { n.HTML = true },
}

// Words (well made): fields that a kind has not are zero, and empty lists are as nil ones.
func TestFieldsOfKinds(t *testing.T) {
	for kind, at := range byKind() {
		for field, turn := range setters {
			f := wood()
			turn(&f.Nodes[at-1])
			if slices.Contains(strings.Fields(nodeFields[kind]), field) {
				wantCheck(t, field, f, api.OK, 0)
			} else {
				wantCheck(t, field, f, api.ErrForest, at)
			}
		}
	}
	f := wood()
	for i := range f.Nodes {
		n := &f.Nodes[i]
		n.Data, n.Attrs, n.Kids = append(api.Units{}, n.Data...), append([]api.Attr{}, n.Attrs...), append([]int{}, n.Kids...)
	}
	wantCheck(t, "empty lists", f, api.OK, 0)
}

// Words (well made): Kids, Parent, Host and Shadow are had by some kinds only, even where both ends agree.
func TestHandlesOfKinds(t *testing.T) {
	for kind, at := range byKind() {
		has := func(field string) bool { return slices.Contains(strings.Fields(nodeFields[kind]), field) }
		if !has("Kids") {
			f := wood()
			f.Nodes = append(f.Nodes, api.Node{Kind: api.KindText, Doc: 1, Parent: at})
			f.Nodes[at-1].Kids = []int{15}
			wantCheck(t, "Kids", f, api.ErrForest, at)
		}
		if !has("Shadow") {
			f := wood()
			f.Nodes = append(f.Nodes, api.Node{Kind: api.KindShadow, Doc: 1, Host: at, Mode: api.ShadowOpen})
			f.Nodes[at-1].Shadow = 15
			wantCheck(t, "Shadow", f, api.ErrForest, at)
		}
		if !has("Host") {
			f := wood()
			f.Nodes = append(f.Nodes, api.Node{Kind: api.KindElement, Name: local("a"), Doc: 1, Shadow: at})
			f.Nodes[at-1].Host = 15
			wantCheck(t, "Host", f, api.ErrForest, at)
		}
		if !has("Parent") {
			f := wood()
			f.Nodes = append(f.Nodes, api.Node{Kind: api.KindFragment, Doc: 1, Kids: []int{at}})
			f.Nodes[at-1].Parent = 15
			wantCheck(t, "Parent", f, api.ErrForest, at)
		}
	}
}

// Words (well made): how long names and their like may be, and what they need.
func TestNamesOfNodes(t *testing.T) {
	most, more := strings.Repeat("n", api.MaxName), strings.Repeat("n", api.MaxName+1)
	value, longer := strings.Repeat("v", api.MaxValue), strings.Repeat("v", api.MaxValue+1)
	for _, c := range []struct {
		what string
		at   int
		turn func(n *api.Node)
		why  api.Errno
	}{
		{"Local, most", 4, func(n *api.Node) { n.Name.Local = most }, api.OK},
		{"Local, more", 4, func(n *api.Node) { n.Name.Local = more }, api.ErrForest},
		{"Local, more, of two bytes a letter", 4, func(n *api.Node) { n.Name.Local = strings.Repeat("ö", api.MaxName/2) + "n" }, api.ErrForest},
		{"Local, none", 4, func(n *api.Node) { n.Name.Local = "" }, api.ErrForest},
		{"Space, most", 4, func(n *api.Node) { n.Name.Space = most }, api.OK},
		{"Space, more", 4, func(n *api.Node) { n.Name.Space = more }, api.ErrForest},
		{"Prefix, most", 8, func(n *api.Node) { n.Name.Prefix = most }, api.OK},
		{"Prefix, more", 8, func(n *api.Node) { n.Name.Prefix = more }, api.ErrForest},
		{"Prefix without Space", 8, func(n *api.Node) { n.Name.Space = "" }, api.ErrForest},
		{"doctype's Local, most", 3, func(n *api.Node) { n.Name.Local = most }, api.OK},
		{"doctype's Local, more", 3, func(n *api.Node) { n.Name.Local = more }, api.ErrForest},
		{"doctype's Local, none", 3, func(n *api.Node) { n.Name.Local = "" }, api.ErrForest},
		{"target, most", 5, func(n *api.Node) { n.Name.Local = most }, api.OK},
		{"target, more", 5, func(n *api.Node) { n.Name.Local = more }, api.ErrForest},
		{"target, none", 5, func(n *api.Node) { n.Name.Local = "" }, api.ErrForest},
		{"Public, most", 3, func(n *api.Node) { n.Public = most }, api.OK},
		{"Public, more", 3, func(n *api.Node) { n.Public = more }, api.ErrForest},
		{"Public, none", 3, func(n *api.Node) { n.Public = "" }, api.OK},
		{"System, most", 3, func(n *api.Node) { n.System = most }, api.OK},
		{"System, more", 3, func(n *api.Node) { n.System = more }, api.ErrForest},
		{"attribute's Local, most", 4, func(n *api.Node) { n.Attrs[1].Name.Local = most }, api.OK},
		{"attribute's Local, more", 4, func(n *api.Node) { n.Attrs[1].Name.Local = more }, api.ErrForest},
		{"attribute's Local, none", 4, func(n *api.Node) { n.Attrs[0].Name.Local = "" }, api.ErrForest},
		{"attribute's Space, more", 4, func(n *api.Node) { n.Attrs[0].Name.Space = more }, api.ErrForest},
		{"attribute's Prefix", 4, func(n *api.Node) { n.Attrs[0].Name = api.Name{Space: "u", Prefix: "p", Local: "x"} }, api.OK},
		{"attribute's Prefix, more", 4, func(n *api.Node) { n.Attrs[0].Name = api.Name{Space: "u", Prefix: more, Local: "x"} }, api.ErrForest},
		{"attribute's Prefix without Space", 4, func(n *api.Node) { n.Attrs[0].Name.Prefix = "p" }, api.ErrForest},
		{"Value, most", 4, func(n *api.Node) { n.Attrs[0].Value = value }, api.OK},
		{"Value, more", 4, func(n *api.Node) { n.Attrs[0].Value = longer }, api.ErrForest},
		{"Value, none", 4, func(n *api.Node) { n.Attrs[0].Value = "" }, api.OK},
		{"two of one name", 4, func(n *api.Node) { n.Attrs[1].Name = n.Attrs[0].Name }, api.ErrForest},
		{"two of one name, by two prefixes", 4, func(n *api.Node) {
			n.Attrs[0].Name, n.Attrs[1].Name = api.Name{Space: "u", Prefix: "p", Local: "x"}, api.Name{Space: "u", Local: "x"}
		}, api.ErrForest},
		{"two of one Local", 4, func(n *api.Node) { n.Attrs[1].Name = api.Name{Space: "u", Local: "x"} }, api.OK},
		{"the first and the last of one name", 4, func(n *api.Node) { n.Attrs = append(n.Attrs, attr("x")) }, api.ErrForest},
		{"attributes, most", 4, func(n *api.Node) { n.Attrs = manyAttrs(api.MaxAttrs) }, api.OK},
		{"attributes, more", 4, func(n *api.Node) { n.Attrs = manyAttrs(api.MaxAttrs + 1) }, api.ErrForest},
		{"text, most", 6, func(n *api.Node) { n.Data = make(api.Units, api.MaxData) }, api.OK},
		{"text, more", 6, func(n *api.Node) { n.Data = make(api.Units, api.MaxData+1) }, api.ErrForest},
		{"CDATA, more", 7, func(n *api.Node) { n.Data = make(api.Units, api.MaxData+1) }, api.ErrForest},
		{"comment, more", 2, func(n *api.Node) { n.Data = make(api.Units, api.MaxData+1) }, api.ErrForest},
		{"instruction, more", 5, func(n *api.Node) { n.Data = make(api.Units, api.MaxData+1) }, api.ErrForest},
		{"Mode none", 9, func(n *api.Node) { n.Mode = api.ShadowNone }, api.ErrForest},
		{"Mode open", 9, func(n *api.Node) { n.Mode = api.ShadowOpen }, api.OK},
		{"Mode of none", 9, func(n *api.Node) { n.Mode = api.ShadowCount }, api.ErrForest},
		{"Mode, greatest", 9, func(n *api.Node) { n.Mode = 255 }, api.ErrForest},
	} {
		f := wood()
		c.turn(&f.Nodes[c.at-1])
		at := 0
		if c.why != api.OK {
			at = c.at
		}
		wantCheck(t, c.what, f, c.why, at)
	}
}

func manyAttrs(n int) []api.Attr {
	var l []api.Attr
	for i := range n {
		l = append(l, attr("a"+strings.Repeat("b", i)))
	}
	return l
}

// Words (right): each of the rules, broken, and the first node at which it is.
func TestCheckWrong(t *testing.T) {
	element := api.Node{Kind: api.KindElement, Name: local("e"), Doc: 1}
	text := api.Node{Kind: api.KindText, Doc: 1}
	for _, c := range []struct {
		what string
		turn func(l []api.Node) []api.Node
		at   int
	}{
		{"a kid that is none", func(l []api.Node) []api.Node { l[3].Kids[1] = 15; return l }, 4},
		{"a kid that is 0", func(l []api.Node) []api.Node { l[3].Kids[1] = 0; return l }, 4},
		{"a kid below 0", func(l []api.Node) []api.Node { l[3].Kids[1] = -1; return l }, 4},
		{"a kid far away", func(l []api.Node) []api.Node { l[3].Kids[1] = math.MaxInt; return l }, 4},
		{"a kid far below", func(l []api.Node) []api.Node { l[3].Kids[1] = math.MinInt; return l }, 4},
		{"a kid more that has no Parent", func(l []api.Node) []api.Node { l[9].Kids = []int{14}; l[13].Doc = 1; return l }, 10},
		{"a kid of another one", func(l []api.Node) []api.Node { l[9].Kids = []int{12}; return l }, 10},
		{"a kid twice", func(l []api.Node) []api.Node { l[3].Kids = []int{6, 7, 8, 6}; return l }, 4},
		{"a kid left out", func(l []api.Node) []api.Node { l[3].Kids = []int{6, 8}; return l }, 7},
		{"a Parent that is none", func(l []api.Node) []api.Node { l[13].Parent = 15; return l }, 14},
		{"a Parent below 0", func(l []api.Node) []api.Node { l[13].Parent = -1; return l }, 14},
		{"a Parent far away", func(l []api.Node) []api.Node { l[13].Parent = math.MaxInt; return l }, 14},
		{"a Parent that has it not", func(l []api.Node) []api.Node { l[13].Parent = 10; l[13].Doc = 1; return l }, 14},
		{"its own Parent", func(l []api.Node) []api.Node { l[13].Parent = 14; return l }, 14},
		{"its own Parent and kid", func(l []api.Node) []api.Node { l[13].Parent = 14; l[13].Kids = []int{14}; return l }, 14},
		{"a ring of two", func(l []api.Node) []api.Node {
			a, b := element, element
			a.Parent, a.Kids, b.Parent, b.Kids = 16, []int{16}, 15, []int{15}
			return append(l, a, b)
		}, 15},
		{"what comes to a ring", func(l []api.Node) []api.Node {
			a, b, c := element, element, element
			a.Parent, b.Parent, b.Kids, c.Parent, c.Kids = 16, 17, []int{15, 17}, 16, []int{16}
			return append(l, a, b, c)
		}, 15},
		{"a ring through Host", func(l []api.Node) []api.Node {
			a := element
			a.Parent, a.Shadow = 16, 16
			return append(l, a, api.Node{Kind: api.KindShadow, Kids: []int{15}, Host: 15, Mode: api.ShadowOpen, Doc: 1})
		}, 15},
		{"what comes to a ring through Host", func(l []api.Node) []api.Node {
			a, b := text, element
			a.Parent, b.Parent, b.Kids, b.Shadow = 16, 17, []int{15}, 17
			return append(l, a, b, api.Node{Kind: api.KindShadow, Kids: []int{16}, Host: 16, Mode: api.ShadowOpen, Doc: 1})
		}, 15},
		{"no Doc", func(l []api.Node) []api.Node { l[13].Doc = 0; return l }, 14},
		{"a Doc that is none", func(l []api.Node) []api.Node { l[13].Doc = 15; return l }, 14},
		{"a Doc below 0", func(l []api.Node) []api.Node { l[13].Doc = -1; return l }, 14},
		{"a Doc that is no document", func(l []api.Node) []api.Node { l[13].Doc = 4; return l }, 14},
		{"itself as Doc", func(l []api.Node) []api.Node { l[13].Doc = 14; return l }, 14},
		{"a document's Doc is another one", func(l []api.Node) []api.Node { l[12].Doc = 1; return l }, 13},
		{"a document without Doc", func(l []api.Node) []api.Node { l[12].Doc = 0; return l }, 13},
		{"a kid of another Doc", func(l []api.Node) []api.Node { l[11].Doc = 13; return l }, 12},
		{"a document's kid of another Doc", func(l []api.Node) []api.Node { l[1].Doc = 13; return l }, 2},
		{"a shadow root of another Doc", func(l []api.Node) []api.Node { l[8].Doc, l[9].Doc = 13, 13; return l }, 9},
		{"a Shadow that is none", func(l []api.Node) []api.Node { l[13].Shadow = 15; return l }, 14},
		{"a Shadow below 0", func(l []api.Node) []api.Node { l[13].Shadow = -1; return l }, 14},
		{"a Shadow that is no shadow root", func(l []api.Node) []api.Node { l[13].Shadow = 11; return l }, 14},
		{"a Shadow of another Host", func(l []api.Node) []api.Node { l[13].Shadow = 9; return l }, 14},
		{"a Shadow left out", func(l []api.Node) []api.Node { l[7].Shadow = 0; return l }, 9},
		{"a Host that is none", func(l []api.Node) []api.Node { l[7].Shadow, l[8].Host = 0, 15; return l }, 9},
		{"no Host", func(l []api.Node) []api.Node { l[7].Shadow, l[8].Host = 0, 0; return l }, 9},
		{"no Host, which has it", func(l []api.Node) []api.Node { l[8].Host = 0; return l }, 8},
		{"a Host that is no element", func(l []api.Node) []api.Node { l[7].Shadow, l[8].Host = 0, 11; return l }, 9},
		{"a Host with another Shadow", func(l []api.Node) []api.Node {
			return append(l, api.Node{Kind: api.KindShadow, Host: 8, Mode: api.ShadowOpen, Doc: 1})
		}, 15},
		{"the first of two", func(l []api.Node) []api.Node { l[13].Doc, l[5].Manual = 0, true; return l }, 6},
	} {
		f := api.Forest{Nodes: c.turn(wood().Nodes)}
		wantCheck(t, c.what, f, api.ErrForest, c.at)
		if first := modelFirst(f); first != c.at {
			t.Errorf("%s: the model has %d", c.what, first)
		}
	}
}

// Words (right): of a ring it is the least handle that is told, though it be the first one of all.
func TestCheckFirstComesToRing(t *testing.T) {
	f := api.Forest{Nodes: []api.Node{
		{Kind: api.KindText, Parent: 2, Doc: 4},
		{Kind: api.KindElement, Name: local("a"), Parent: 3, Kids: []int{1, 3}, Doc: 4},
		{Kind: api.KindElement, Name: local("b"), Parent: 2, Kids: []int{2}, Doc: 4},
		{Kind: api.KindDocument, Doc: 4},
	}}
	wantCheck(t, "a text that comes to a ring", f, api.ErrForest, 1)
	f.Nodes[0] = f.Nodes[2]
	f.Nodes[1].Parent, f.Nodes[1].Kids = 1, []int{1}
	f.Nodes[2] = api.Node{Kind: api.KindText, Doc: 4}
	wantCheck(t, "a ring", f, api.ErrForest, 1)
}

// Words (right): which kids a node of each kind may have, alone and with one more.
func TestKidsOfKinds(t *testing.T) {
	for _, parent := range []api.NodeKind{api.KindElement, api.KindDocument, api.KindFragment, api.KindShadow} {
		for _, first := range kinds() {
			for _, second := range append(kinds(), 0) {
				f := family(parent, first, second)
				want := modelFirst(f)
				if want != -1 {
					wantCheck(t, "kids", f, api.ErrForest, want)
				} else {
					wantCheck(t, "kids", f, api.OK, 0)
				}
				within := first != api.KindDoctype && second != api.KindDoctype
				if parent != api.KindDocument && hangs(first) && (second == 0 || hangs(second)) && within != (want == -1) {
					t.Errorf("%d with %d and %d: %d", parent, first, second, want)
				}
			}
		}
	}
	for word, right := range map[string]bool{
		"": true, "e": true, "d": true, "de": true, "cdiec": true, "ci": true,
		"ed": false, "ee": false, "dd": false, "dde": false, "ede": false, "ecd": false, "ece": false, "dcd": false,
		"t": false, "et": false, "a": false,
	} {
		var kids []api.NodeKind
		for _, c := range word {
			kids = append(kids, map[rune]api.NodeKind{
				'e': api.KindElement, 'd': api.KindDoctype, 'c': api.KindComment, 'i': api.KindInstruction,
				't': api.KindText, 'a': api.KindCData,
			}[c])
		}
		why, at := forest.Check(family(api.KindDocument, kids...))
		if right != (why == api.OK) || !right && at != 2 {
			t.Errorf("a document of %q: %d, %d", word, why, at)
		}
	}
}

func hangs(k api.NodeKind) bool { return strings.Contains(nodeFields[k], "Parent") }

// family is a document, a node of the kind parent (2), and its kids; a shadow root's host stands behind all.
func family(parent api.NodeKind, kids ...api.NodeKind) api.Forest {
	f := forest.New(false)
	f.Nodes = append(f.Nodes, api.Node{Kind: parent, Doc: 1})
	for _, k := range kids {
		if k != 0 {
			f.Nodes = append(f.Nodes, api.Node{Kind: k, Doc: 1, Parent: 2})
			f.Nodes[1].Kids = append(f.Nodes[1].Kids, len(f.Nodes))
		}
	}
	for i := range f.Nodes {
		n := &f.Nodes[i]
		if strings.Contains(nodeFields[n.Kind], "Local") {
			n.Name.Local = "a"
		}
		if n.Kind == api.KindShadow {
			n.Mode = api.ShadowOpen
		}
	}
	switch parent {
	case api.KindDocument:
		for i := range f.Nodes[1:] {
			f.Nodes[i+1].Doc = 2
		}
	case api.KindShadow:
		f.Nodes = append(f.Nodes, api.Node{Kind: api.KindElement, Name: local("h"), Doc: 1, Shadow: 2})
		f.Nodes[1].Host = len(f.Nodes)
	}
	return f
}

// 3.1, and Words: Check says what the model says, of forests that are grown and then turned here and there.
func TestCheckAsModel(t *testing.T) {
	right, wrong := 0, 0
	for seed := range 6000 {
		d := sample.NewDice(seed)
		f := sample.Grow(d, 1+d.Below(9))
		if modelFirst(f) != -1 {
			t.Fatal("what is grown is not right:", f)
		}
		for range d.Below(4) {
			turnOne(d, &f)
		}
		why, at := forest.Check(f)
		want := modelFirst(f)
		switch {
		case want == -1 && (why != api.OK || at != 0), want != -1 && (why != api.ErrForest || at != want):
			t.Fatalf("%v: %d, %d; want %d", f, why, at, want)
		case want == -1:
			right++
		default:
			wrong++
		}
	}
	if right < 1000 || wrong < 1000 {
		t.Error("too few of a kind:", right, wrong)
	}
}

// turnOne has another handle, kind or list somewhere.
func turnOne(d *sample.Dice, f *api.Forest) {
	n := &f.Nodes[d.Below(len(f.Nodes))]
	h := d.Below(len(f.Nodes)+3) - 1
	switch d.Below(10) {
	case 0:
		n.Kind = api.NodeKind(d.Below(14))
	case 1:
		n.Parent = h
	case 2:
		n.Doc = h
	case 3:
		n.Host = h
	case 4:
		n.Shadow = h
	case 5:
		n.Kids = append(n.Kids, h)
	case 6:
		if len(n.Kids) > 0 {
			n.Kids = n.Kids[1:]
		}
	case 7:
		n.Mode = api.ShadowMode(d.Below(4))
	case 8:
		slices.Reverse(n.Kids)
	case 9: // both ends agree, whatever comes of it
		if isNode(*f, h) {
			n.Kids = append(n.Kids, h)
			f.Nodes[h-1].Parent = slices.IndexFunc(f.Nodes, func(m api.Node) bool { return len(m.Kids) > 0 && m.Kids[len(m.Kids)-1] == h }) + 1
		}
	}
}

// 3.1 and P1: lists of kids of any length come to an end soon, whoever asks for them.
func TestCheckLongKids(t *testing.T) {
	f := flat(api.MaxNodes)
	long := make([]int, 1<<20)
	for i := range long {
		long[i] = 3 + i%(api.MaxNodes-2)
	}
	f.Nodes[1].Kids = long
	wantCheck(t, "many kids, each of them often", f, api.ErrForest, 2)
	for i := range f.Nodes {
		f.Nodes[i] = api.Node{Kind: api.KindText, Parent: api.MaxNodes, Doc: 1}
	}
	f.Nodes[0] = api.Node{Kind: api.KindDocument, Doc: 1}
	f.Nodes[api.MaxNodes-1] = api.Node{Kind: api.KindFragment, Doc: 1, Kids: long}
	wantCheck(t, "of which two are none of it", f, api.ErrForest, 2)
}

// 3.5: Check leaves what it is given as it was, whether it is right or not.
func TestCheckKeepsNothing(t *testing.T) {
	f := wood()
	forest.Check(f)
	if !forest.Same(f, wood()) {
		t.Error("changed:", f)
	}
	a, b := forest.New(true), forest.New(true)
	a.Nodes[0].Kind = 0
	if b.Nodes[0].Kind != api.KindDocument {
		t.Error("two of New share memory")
	}
}
