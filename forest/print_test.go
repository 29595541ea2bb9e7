package forest_test

import (
	"math"
	"strings"
	"testing"

	"canopy/api"
	"canopy/forest"
)

// 3.4: two forests are the same if all fields of all nodes are; nil and empty lists are alike; neither has to be right.
func TestSame(t *testing.T) {
	full := api.Node{
		Kind: 3, Name: api.Name{Space: "s", Prefix: "p", Local: "l"}, Public: "p", System: "s", Data: api.Units{1, 2},
		Attrs: []api.Attr{attr("a"), attr("b")}, Parent: 1, Kids: []int{1, 2}, Doc: 3, Host: 4, Shadow: 5, Mode: 6, Manual: true, HTML: true,
	}
	of := func(l ...api.Node) api.Forest { return api.Forest{Nodes: l} }
	for field, turn := range map[string]func(n *api.Node){
		"Kind":            func(n *api.Node) { n.Kind = 4 },
		"Space":           func(n *api.Node) { n.Name.Space = "" },
		"Prefix":          func(n *api.Node) { n.Name.Prefix = "" },
		"Local":           func(n *api.Node) { n.Name.Local = "" },
		"Public":          func(n *api.Node) { n.Public = "" },
		"System":          func(n *api.Node) { n.System = "" },
		"Data":            func(n *api.Node) { n.Data = api.Units{1, 3} },
		"Data, less":      func(n *api.Node) { n.Data = api.Units{1} },
		"Data, none":      func(n *api.Node) { n.Data = nil },
		"Attrs":           func(n *api.Node) { n.Attrs = []api.Attr{attr("a"), attr("c")} },
		"Attrs, turned":   func(n *api.Node) { n.Attrs = []api.Attr{attr("b"), attr("a")} },
		"Attrs, by value": func(n *api.Node) { n.Attrs = []api.Attr{attr("a"), {Name: local("b")}} },
		"Attrs, by prefix": func(n *api.Node) {
			n.Attrs = []api.Attr{attr("a"), {Name: api.Name{Prefix: "p", Local: "b"}, Value: "v"}}
		},
		"Parent":       func(n *api.Node) { n.Parent = 2 },
		"Kids":         func(n *api.Node) { n.Kids = []int{2, 1} },
		"Kids, more":   func(n *api.Node) { n.Kids = []int{1, 2, 3} },
		"Doc":          func(n *api.Node) { n.Doc = 0 },
		"Host":         func(n *api.Node) { n.Host = 0 },
		"Shadow":       func(n *api.Node) { n.Shadow = 0 },
		"Mode":         func(n *api.Node) { n.Mode = 0 },
		"Manual":       func(n *api.Node) { n.Manual = false },
		"HTML":         func(n *api.Node) { n.HTML = false },
		"another node": func(n *api.Node) { *n = api.Node{} },
	} {
		other := full
		turn(&other)
		if forest.Same(of(full), of(other)) || forest.Same(of(other), of(full)) {
			t.Error("the same, but for", field)
		}
		if forest.Same(of(full, full), of(full, other)) || !forest.Same(of(other, full), of(other, full)) {
			t.Error("of two nodes:", field)
		}
	}
	empty := api.Node{Data: api.Units{}, Attrs: []api.Attr{}, Kids: []int{}}
	if !forest.Same(of(empty), of(api.Node{})) || !forest.Same(of(api.Node{}), of(empty)) || !forest.Same(api.Forest{}, of()) {
		t.Error("nil and empty lists are alike")
	}
	if forest.Same(of(full), of()) || forest.Same(of(full), of(full, full)) || forest.Same(of(full, full), of(full)) {
		t.Error("another number of nodes")
	}
	if !forest.Same(wood(), wood()) || forest.Same(wood(), tall(14)) {
		t.Error("of right forests")
	}
}

// 3.4: the outline of each node of wood.
func TestPrint(t *testing.T) {
	f := wood()
	f.Nodes[7].Attrs = []api.Attr{{Name: api.Name{Space: "u", Prefix: "q", Local: "x"}}, {Name: api.Name{Space: "u", Local: "y"}, Value: "no matter"}}
	f.Nodes[7].Kids = []int{15}
	f.Nodes = append(f.Nodes, api.Node{Kind: api.KindText, Parent: 8, Doc: 1})
	inner := "<p:b q:x y>\n  #shadow\n    <c>\n  #text 0\n"
	deeper := "    <p:b q:x y>\n      #shadow\n        <c>\n      #text 0\n"
	for root, want := range map[int]string{
		1: "#document\n  #comment 2\n  !html\n  <a x y>\n    #text 3\n    #cdata 1\n" + deeper + "  ?go\n",
		2: "#comment 2\n", 3: "!html\n", 5: "?go\n", 6: "#text 3\n", 7: "#cdata 1\n", 8: inner,
		9: "#shadow\n  <c>\n", 10: "<c>\n", 11: "#fragment\n  #comment 0\n", 12: "#comment 0\n", 13: "#document\n", 14: "<d>\n", 15: "#text 0\n",
	} {
		if s, why := forest.Print(f, root); s != want || why != api.OK {
			t.Errorf("%d: %q, error %d", root, s, why)
		}
	}
	for _, root := range []int{0, -1, 16, math.MaxInt, math.MinInt} {
		if s, why := forest.Print(f, root); s != "" || why != api.ErrRange {
			t.Errorf("%d: %q, error %d", root, s, why)
		}
	}
	if s, why := forest.Print(api.Forest{}, 1); s != "" || why != api.ErrRange {
		t.Errorf("of nothing: %q, error %d", s, why)
	}
}

// 3.4: a text of 2^20 bytes is told; of one more it is said that it is too long.
func TestPrintLong(t *testing.T) {
	f := api.Forest{Nodes: []api.Node{{Kind: api.KindDocument, Doc: 1}, {Kind: api.KindFragment, Doc: 1}}}
	room := 1<<20 - len("#fragment\n")
	line := len("  ?\n")
	for room > 0 {
		size := min(api.MaxName, room-line)
		if rest := room - line - size; rest > 0 && rest <= line { // what is left must have room for a line
			size -= line + 1 - rest
		}
		f.Nodes = append(f.Nodes, api.Node{Kind: api.KindInstruction, Name: local(strings.Repeat("i", size)), Parent: 2, Doc: 1})
		f.Nodes[1].Kids = append(f.Nodes[1].Kids, len(f.Nodes))
		room -= line + size
	}
	s, why := forest.Print(f, 2)
	if len(s) != 1<<20 || why != api.OK || strings.Count(s, "\n") != len(f.Nodes)-1 {
		t.Error("the longest:", len(s), why)
	}
	last := &f.Nodes[len(f.Nodes)-1]
	last.Name.Local = last.Name.Local + "i"
	if s, why := forest.Print(f, 2); s != "" || why != api.ErrLong {
		t.Error("one more:", len(s), why)
	}
	if s, why := forest.Print(tall(api.MaxNodes), 1); s != "" || why != api.ErrLong {
		t.Error("deep:", len(s), why)
	}
	if s, why := forest.Print(tall(900), 1); strings.Count(s, "\n") != 900 || !strings.HasSuffix(s, strings.Repeat("  ", 899)+"<a>\n") || why != api.OK {
		t.Error("less deep:", len(s), why)
	}
}

// 3.4: a text that grows too long in a shadow tree is told so, whatever stands behind that.
func TestPrintLongWithin(t *testing.T) {
	f := api.Forest{Nodes: []api.Node{
		{Kind: api.KindDocument, Doc: 1},
		{Kind: api.KindFragment, Kids: []int{3, 5}, Doc: 1},
		{Kind: api.KindElement, Name: local("a"), Parent: 2, Kids: []int{6}, Doc: 1, Shadow: 4},
		{Kind: api.KindShadow, Host: 3, Mode: api.ShadowOpen, Doc: 1},
		{Kind: api.KindText, Parent: 2, Doc: 1},
		{Kind: api.KindText, Parent: 3, Doc: 1},
	}}
	for range 1 << 10 {
		f.Nodes = append(f.Nodes, api.Node{Kind: api.KindInstruction, Name: local(strings.Repeat("i", api.MaxName)), Parent: 4, Doc: 1})
		f.Nodes[3].Kids = append(f.Nodes[3].Kids, len(f.Nodes))
	}
	wantCheck(t, "a long shadow tree", f, api.OK, 0)
	for _, root := range []int{2, 3, 4} {
		if s, why := forest.Print(f, root); s != "" || why != api.ErrLong {
			t.Error(root, len(s), why)
		}
	}
	if s, why := forest.Print(f, 6); s != "#text 0\n" || why != api.OK {
		t.Errorf("%q, error %d", s, why)
	}
}
