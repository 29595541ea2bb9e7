package clone_test

import (
	"fmt"
	"slices"
	"testing"

	"canopy/api"
	"canopy/clone"
	"canopy/forest"
	"canopy/sample"
)

// written is all that equal nodes have in common, in one text: two nodes are equal just if theirs are the same.
func written(f api.Forest, h int) string {
	n := f.Nodes[h-1]
	s := fmt.Sprintf("(%d", n.Kind)
	switch n.Kind {
	case api.KindDoctype:
		s += fmt.Sprintf("%q%q%q", n.Name.Local, n.Public, n.System)
	case api.KindElement:
		var attrs []string
		for _, a := range n.Attrs {
			attrs = append(attrs, fmt.Sprintf("%q%q%q", a.Name.Space, a.Name.Local, a.Value))
		}
		slices.Sort(attrs)
		s += fmt.Sprintf("%q%q", n.Name, attrs)
	case api.KindInstruction:
		s += fmt.Sprintf("%q%d", n.Name.Local, n.Data)
	case api.KindText, api.KindCData, api.KindComment:
		s += fmt.Sprint(n.Data)
	}
	for _, kid := range n.Kids {
		s += written(f, kid)
	}
	return s + ")"
}

// wantEqual sees what is said of two nodes, both ways.
func wantEqual(t *testing.T, what string, f api.Forest, a, b int, want bool) {
	t.Helper()
	for _, pair := range [][2]int{{a, b}, {b, a}} {
		if is, why := clone.Equal(f, pair[0], pair[1]); is != want || why != api.OK {
			t.Errorf("%s: Equal(%d, %d) = %t, %d; want %t", what, pair[0], pair[1], is, why, want)
		}
	}
}

// pair is a document 1, and two nodes 2 and 3 that hang nowhere.
func pair(a, b api.Node) api.Forest {
	f := forest.New(false)
	a.Doc, b.Doc = 1, 1
	f.Nodes = append(f.Nodes, a, b)
	return f
}

// Words (equal nodes), P10.3: which fields count, kind by kind.
func TestEqualFields(t *testing.T) {
	element := func(name api.Name, attrs ...api.Attr) api.Node {
		return api.Node{Kind: api.KindElement, Name: name, Attrs: attrs}
	}
	doctype := func(name, public, system string) api.Node {
		return api.Node{Kind: api.KindDoctype, Name: local(name), Public: public, System: system}
	}
	with := func(kind api.NodeKind, data ...uint16) api.Node { return api.Node{Kind: kind, Data: data} }
	target := func(name string, data ...uint16) api.Node {
		return api.Node{Kind: api.KindInstruction, Name: local(name), Data: data}
	}
	full := api.Name{Space: "u", Prefix: "p", Local: "a"}
	x, y, z := attr("", "", "x", "1"), attr("u", "", "x", "1"), attr("u", "p", "y", "2")
	for _, c := range []struct {
		what string
		a, b api.Node
		want bool
	}{
		{"doctypes", doctype("a", "b", "c"), doctype("a", "b", "c"), true},
		{"doctypes of other names", doctype("a", "b", "c"), doctype("x", "b", "c"), false},
		{"doctypes, other Publics", doctype("a", "b", "c"), doctype("a", "", "c"), false},
		{"doctypes, other Systems", doctype("a", "b", "c"), doctype("a", "b", "b"), false},
		{"elements", element(full), element(full), true},
		{"elements, other spaces", element(full), element(api.Name{Space: "v", Prefix: "p", Local: "a"}), false},
		{"elements, other prefixes", element(full), element(api.Name{Space: "u", Prefix: "q", Local: "a"}), false},
		{"elements, no prefix", element(full), element(api.Name{Space: "u", Local: "a"}), false},
		{"elements, other locals", element(full), element(api.Name{Space: "u", Prefix: "p", Local: "b"}), false},
		{"attributes", element(full, x, y, z), element(full, x, y, z), true},
		{"attributes in another order", element(full, x, y, z), element(full, z, x, y), true},
		{"attributes with other prefixes", element(full, x, y, z), element(full, x, attr("u", "q", "x", "1"), attr("u", "", "y", "2")), true},
		{"attributes in another order, with other prefixes", element(full, z, y), element(full, attr("u", "r", "x", "1"), attr("u", "s", "y", "2")), true},
		{"an attribute fewer", element(full, x, y, z), element(full, x, y), false},
		{"no attributes", element(full, x), element(full), false},
		{"another attribute's value", element(full, x, y), element(full, x, attr("u", "", "x", "2")), false},
		{"values that are changed about", element(full, x, z), element(full, attr("", "", "x", "2"), attr("u", "p", "y", "1")), false},
		{"another attribute's space", element(full, x), element(full, y), false},
		{"another attribute's local", element(full, x), element(full, attr("", "", "y", "1")), false},
		{"as many, but others", element(full, x, y), element(full, x, z), false},
		{"instructions", target("a", 1, 2), target("a", 1, 2), true},
		{"instructions, other targets", target("a", 1), target("b", 1), false},
		{"instructions, other data", target("a", 1), target("a", 1, 1), false},
		{"texts", with(api.KindText, 1, 2), with(api.KindText, 1, 2), true},
		{"texts without data", with(api.KindText), api.Node{Kind: api.KindText, Data: api.Units{}}, true},
		{"texts, other data", with(api.KindText, 1, 2), with(api.KindText, 2, 1), false},
		{"CDATA", with(api.KindCData, 7), with(api.KindCData, 7), true},
		{"CDATA, other data", with(api.KindCData, 7), with(api.KindCData), false},
		{"comments", with(api.KindComment, 7), with(api.KindComment, 7), true},
		{"comments, other data", with(api.KindComment, 7), with(api.KindComment, 8), false},
		{"a text and CDATA", with(api.KindText, 7), with(api.KindCData, 7), false},
		{"a text and a comment", with(api.KindText, 7), with(api.KindComment, 7), false},
		{"fragments", with(api.KindFragment), with(api.KindFragment), true},
		{"a fragment and an element", with(api.KindFragment), element(full), false},
		{"a doctype and an element", doctype("a", "", ""), element(local("a")), false},
		{"an instruction and an element", target("a"), element(local("a")), false},
	} {
		wantEqual(t, c.what, pair(c.a, c.b), 2, 3, c.want)
	}
}

// Words (equal nodes): documents, fragments and shadow roots are asked for their kids alone; a shadow tree is no part of its host.
func TestEqualRoots(t *testing.T) {
	f := api.Forest{Nodes: []api.Node{
		{Kind: api.KindDocument, Doc: 1, HTML: true},
		{Kind: api.KindDocument, Doc: 2},
		{Kind: api.KindElement, Name: local("a"), Doc: 1, Shadow: 5},
		{Kind: api.KindElement, Name: local("a"), Doc: 2, Shadow: 6},
		{Kind: api.KindShadow, Doc: 1, Host: 3, Mode: api.ShadowOpen, Kids: []int{8}},
		{Kind: api.KindShadow, Doc: 2, Host: 4, Mode: api.ShadowClosed, Manual: true, Kids: []int{9}},
		{Kind: api.KindElement, Name: local("a"), Doc: 2},
		{Kind: api.KindText, Data: api.Units{1}, Doc: 1, Parent: 5},
		{Kind: api.KindText, Data: api.Units{1}, Doc: 2, Parent: 6},
		{Kind: api.KindFragment, Doc: 1},
	}}
	wantEqual(t, "documents", f, 1, 2, true)
	wantEqual(t, "shadow roots", f, 5, 6, true)
	wantEqual(t, "hosts", f, 3, 4, true)
	wantEqual(t, "a host and none", f, 3, 7, true)
	wantEqual(t, "a fragment and a shadow root", f, 10, 5, false)
	wantEqual(t, "a fragment and a document", f, 10, 1, false)
	f.Nodes[8].Data = api.Units{2}
	wantEqual(t, "shadow roots of other kids", f, 5, 6, false)
	wantEqual(t, "hosts of other shadow trees", f, 3, 4, true)
}

// Words (equal nodes): kids count, by their order, as far down as there are any.
func TestEqualKids(t *testing.T) {
	f := page()
	for _, h := range []int{1, 3, 6, 12} {
		g, _, own, why := clone.Clone(f, h, true)
		if why != api.OK {
			t.Fatal(why)
		}
		wantEqual(t, "a copy", g, h, own, true)
		if last := len(g.Nodes); g.Nodes[last-1].Parent != 0 {
			up := &g.Nodes[g.Nodes[last-1].Parent-1]
			up.Kids, g.Nodes[last-1].Parent = up.Kids[:len(up.Kids)-1], 0
			wantEqual(t, "a kid fewer", g, h, own, false)
		}
	}
	g, _, own, _ := clone.Clone(f, 3, true)
	kids := g.Nodes[own-1].Kids
	kids[0], kids[2] = kids[2], kids[0]
	wantEqual(t, "kids in another order", g, 3, own, false)
	wantEqual(t, "a node and what is within it", f, 3, 6, false)
	wantEqual(t, "a node and its parent", f, 12, 13, false)
}

// P10.3, P10.7: of forests that are grown, Equal is as written has it, and so reflexive, both ways, and goes on.
func TestEqualAsModel(t *testing.T) {
	same, other := 0, 0
	for seed := range 150 {
		d := sample.NewDice(seed)
		f := sample.Grow(d, 2+d.Below(16))
		for range 4 {
			if g, _, _, why := clone.Clone(f, 1+d.Below(len(f.Nodes)), d.Below(3) > 0); why == api.OK {
				f = g
			}
		}
		f = blurred(d, f)
		var texts []string
		for h := range f.Nodes {
			texts = append(texts, written(f, h+1))
		}
		for a := range f.Nodes {
			for b := range f.Nodes {
				want := texts[a] == texts[b]
				if is, why := clone.Equal(f, a+1, b+1); is != want || why != api.OK {
					t.Fatalf("seed %d: Equal(%d, %d) = %t, %d: %+v", seed, a+1, b+1, is, why, f)
				}
				if want && a != b {
					same++
				} else {
					other++
				}
			}
		}
		wantRelation(t, f)
	}
	if same < 1000 || other < 1000 {
		t.Error("too few of a kind:", same, other)
	}
}

// blurred has some attributes in another order, with other prefixes or values, and some data turned.
func blurred(d *sample.Dice, f api.Forest) api.Forest {
	g := sample.Copy(f)
	for i := range g.Nodes {
		n := &g.Nodes[i]
		for at := range n.Attrs {
			if n.Attrs[at].Name.Prefix != "" && d.Below(2) == 0 {
				n.Attrs[at].Name.Prefix = "z"
			}
			if d.Below(20) == 0 {
				n.Attrs[at].Value += "z"
			}
		}
		if d.Below(2) == 0 {
			slices.Reverse(n.Attrs)
		}
		if len(n.Data) > 0 && d.Below(20) == 0 {
			n.Data[0]++
		}
	}
	return g
}

// wantRelation asks all nodes (P10.7): each is equal to itself; what is equal is so both ways; and those equal to one are equal to one another.
func wantRelation(t *testing.T, f api.Forest) {
	t.Helper()
	is := make([][]bool, len(f.Nodes))
	for a := range f.Nodes {
		for b := range f.Nodes {
			yes, _ := clone.Equal(f, a+1, b+1)
			is[a] = append(is[a], yes)
		}
	}
	for a := range is {
		if !is[a][a] {
			t.Errorf("P10.7: %d is not equal to itself", a+1)
		}
		for b := range is {
			if is[a][b] != is[b][a] {
				t.Errorf("P10.7: %d and %d are equal one way", a+1, b+1)
			}
			if is[a][b] && !slices.Equal(is[a], is[b]) {
				t.Errorf("P10.7: %d and %d are equal, but not to the same ones", a+1, b+1)
			}
		}
	}
}
