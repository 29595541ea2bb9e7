package clone_test

import (
	"math"
	"slices"
	"testing"

	"canopy/api"
	"canopy/clone"
	"canopy/forest"
	"canopy/sample"
)

func local(s string) api.Name { return api.Name{Local: s} }

func attr(space, prefix, local, value string) api.Attr {
	return api.Attr{Name: api.Name{Space: space, Prefix: prefix, Local: local}, Value: value}
}

// page has every kind of node, with all fields that a kind may have, a shadow tree, and two documents.
func page() api.Forest {
	return api.Forest{Nodes: []api.Node{
		{Kind: api.KindDocument, Kids: []int{2, 3, 4}, Doc: 1, HTML: true},
		{Kind: api.KindDoctype, Name: local("html"), Public: "pub", System: "sys", Parent: 1, Doc: 1},
		{Kind: api.KindElement, Name: api.Name{Space: "u", Prefix: "p", Local: "a"}, Attrs: []api.Attr{attr("", "", "x", "1"), attr("u", "p", "x", "2")},
			Parent: 1, Kids: []int{5, 6, 7}, Doc: 1, Shadow: 8},
		{Kind: api.KindInstruction, Name: local("go"), Data: api.Units{1}, Parent: 1, Doc: 1},
		{Kind: api.KindText, Data: api.Units{2, 3}, Parent: 3, Doc: 1},
		{Kind: api.KindElement, Name: local("b"), Parent: 3, Kids: []int{10, 11}, Doc: 1},
		{Kind: api.KindCData, Data: api.Units{4}, Parent: 3, Doc: 1},
		{Kind: api.KindShadow, Kids: []int{9}, Doc: 1, Host: 3, Mode: api.ShadowClosed, Manual: true},
		{Kind: api.KindElement, Name: local("slot"), Parent: 8, Doc: 1},
		{Kind: api.KindComment, Data: api.Units{5}, Parent: 6, Doc: 1},
		{Kind: api.KindText, Parent: 6, Doc: 1},
		{Kind: api.KindFragment, Kids: []int{13}, Doc: 14},
		{Kind: api.KindElement, Name: local("c"), Parent: 12, Doc: 14},
		{Kind: api.KindDocument, Doc: 14},
	}}
}

// stuffed is the page with so many nodes, those behind it being texts that hang nowhere.
func stuffed(n int) api.Forest {
	f := page()
	for len(f.Nodes) < n {
		f.Nodes = append(f.Nodes, api.Node{Kind: api.KindText, Doc: 1})
	}
	return f
}

// answer is what a call answers.
type answer struct {
	g   api.Forest
	l   []api.Change
	h   int
	why api.Errno
}

func got(g api.Forest, l []api.Change, h int, why api.Errno) answer { return answer{g, l, h, why} }

// refuses sees that a call says why, and nothing else.
func refuses(t *testing.T, what string, a answer, why api.Errno) {
	t.Helper()
	if a.why != why || a.g.Nodes != nil || a.l != nil || a.h != 0 {
		t.Errorf("%s: error %d, want %d; %d, %v", what, a.why, why, a.h, a.l)
	}
}

// modelCopy says what the chapter's words say of a copy, which becomes the last kid of a parent (0: of none).
func modelCopy(g api.Forest, l []api.Change, h, doc, parent int, deep bool) (api.Forest, []api.Change) {
	n, own := g.Nodes[h-1], len(g.Nodes)+1
	kids := n.Kids
	n.Parent, n.Kids, n.Shadow, n.Doc = 0, nil, 0, doc
	l = append(l, api.Change{Kind: api.ChangeMake, Node: own, Made: n})
	g.Nodes = append(g.Nodes, n)
	if parent != 0 {
		into := &g.Nodes[parent-1]
		l = append(l, api.Change{Kind: api.ChangeInsert, Node: own, Parent: parent, Index: len(into.Kids)})
		into.Kids = append(into.Kids, own)
		g.Nodes[own-1].Parent = parent
	}
	if deep {
		for _, kid := range kids {
			g, l = modelCopy(g, l, kid, doc, own, true)
		}
	}
	return g, l
}

// wantCopy sees that a call answers what the model does (P10.1, P10.2), and what follows (P10.5, P10.6, P10.8).
func wantCopy(t *testing.T, what string, f api.Forest, h, doc int, deep bool, a answer) {
	t.Helper()
	own := len(f.Nodes) + 1
	want, wantChanges := modelCopy(sample.Copy(f), nil, h, doc, 0, deep)
	if a.why != api.OK || a.h != own || !forest.Same(a.g, want) || !sample.SameChanges(a.l, wantChanges) {
		t.Errorf("%s of %d: %+v, %d, %d; want %+v", what, h, a.l, a.h, a.why, wantChanges)
		return
	}
	if g, _, why := forest.All(f, a.l); why != api.OK || !forest.Same(g, a.g) {
		t.Errorf("P10.8: %s of %d: error %d", what, h, why)
	}
	if !forest.Same(api.Forest{Nodes: a.g.Nodes[:own-1]}, f) {
		t.Errorf("P10.6: %s of %d turns what there was", what, h)
	}
	for i, n := range a.g.Nodes[own-1:] {
		if n.Doc != doc || n.Shadow != 0 || (n.Parent != 0) != (i > 0) || i > 0 && n.Parent < own {
			t.Errorf("P10.6: %s of %d: the copy %d: %+v", what, h, own+i, n)
		}
	}
	same := deep || len(f.Nodes[h-1].Kids) == 0
	if is, why := clone.Equal(a.g, h, own); is != same || why != api.OK {
		t.Errorf("P10.5: %s of %d: Equal is %t, %d", what, h, is, why)
	}
}

// Chapter 10, the example.
func TestExample(t *testing.T) {
	f := forest.New(true)
	f.Nodes = append(f.Nodes,
		api.Node{Kind: api.KindElement, Name: local("p"), Attrs: []api.Attr{attr("", "", "id", "v")}, Kids: []int{3}, Doc: 1},
		api.Node{Kind: api.KindText, Data: api.Units{9}, Parent: 2, Doc: 1})
	a := got(clone.Clone(f, 2, true))
	want := []api.Change{
		{Kind: api.ChangeMake, Node: 4, Made: api.Node{Kind: api.KindElement, Name: local("p"), Attrs: []api.Attr{attr("", "", "id", "v")}, Doc: 1}},
		{Kind: api.ChangeMake, Node: 5, Made: api.Node{Kind: api.KindText, Data: api.Units{9}, Doc: 1}},
		{Kind: api.ChangeInsert, Node: 5, Parent: 4, Index: 0},
	}
	if a.why != api.OK || a.h != 4 || !sample.SameChanges(a.l, want) {
		t.Errorf("%+v, %d, %d", a.l, a.h, a.why)
	}
	if is, why := clone.Equal(a.g, 2, 4); !is || why != api.OK {
		t.Error("deep:", is, why)
	}
	a = got(clone.Clone(f, 2, false))
	if is, why := clone.Equal(a.g, 2, 4); a.h != 4 || len(a.l) != 1 || len(a.g.Nodes) != 4 || is || why != api.OK {
		t.Error("not deep:", a.h, a.l, is, why)
	}
	a = got(clone.Clone(f, 1, false))
	if a.why != api.OK || a.g.Nodes[3].Kind != api.KindDocument || a.g.Nodes[3].Doc != 4 {
		t.Error("a document:", a.why)
	}
	refuses(t, "Import(1, 1)", got(clone.Import(f, 1, 1, false)), api.ErrUnsupported)
}

// P10.1, P10.2: copies of each kind, deep and not deep: of a host the shadow tree is not copied, of a document the copy is that of all copies.
func TestEachKind(t *testing.T) {
	f := page()
	for i, n := range f.Nodes {
		for _, deep := range []bool{false, true} {
			doc := n.Doc
			if n.Kind == api.KindDocument {
				doc = len(f.Nodes) + 1
			}
			if n.Kind == api.KindShadow {
				refuses(t, "Clone of a shadow root", got(clone.Clone(f, i+1, deep)), api.ErrUnsupported)
			} else {
				wantCopy(t, "Clone", f, i+1, doc, deep, got(clone.Clone(f, i+1, deep)))
			}
			for _, doc := range []int{1, 14} {
				if n.Kind == api.KindShadow || n.Kind == api.KindDocument {
					refuses(t, "Import of a document, a shadow root", got(clone.Import(f, doc, i+1, deep)), api.ErrUnsupported)
				} else {
					wantCopy(t, "Import", f, i+1, doc, deep, got(clone.Import(f, doc, i+1, deep)))
				}
			}
		}
	}
	a := got(clone.Clone(f, 1, true))
	if why, at := forest.Check(a.g); why != api.OK || !slices.Equal(a.g.Nodes[14].Kids, []int{16, 17, 23}) || !a.g.Nodes[14].HTML {
		t.Error("a document, deep:", a.g.Nodes[14].Kids, why, at)
	}
}

// P10.1, P10.2, P10.5, P10.6, P10.8: copies of all nodes of forests that are grown.
func TestAsModel(t *testing.T) {
	hosts, documents, trees := 0, 0, 0
	for seed := range 120 {
		d := sample.NewDice(seed)
		f := sample.Grow(d, 2+d.Below(24))
		for i, n := range f.Nodes {
			doc := n.Doc
			if n.Kind == api.KindDocument {
				doc = len(f.Nodes) + 1
				documents++
			}
			if n.Kind == api.KindShadow {
				continue
			}
			if n.Shadow != 0 {
				hosts++
			}
			a := got(clone.Clone(f, i+1, true))
			wantCopy(t, "Clone", f, i+1, doc, true, a)
			if len(a.l) > 5 {
				trees++
			}
			wantCopy(t, "Clone", f, i+1, doc, false, got(clone.Clone(f, i+1, false)))
			if doc = f.Nodes[d.Below(len(f.Nodes))].Doc; n.Kind != api.KindDocument {
				wantCopy(t, "Import", f, i+1, doc, true, got(clone.Import(f, doc, i+1, true)))
				wantCopy(t, "Import", f, i+1, doc, false, got(clone.Import(f, doc, i+1, false)))
			}
		}
		if t.Failed() {
			t.Fatalf("seed %d: %+v", seed, f)
		}
	}
	if hosts < 50 || documents < 50 || trees < 50 {
		t.Error("too few of a kind:", hosts, documents, trees)
	}
}

// P10.1, P10.2: copies up to MaxNodes nodes are made, one more is ErrMany; what is wrong besides goes ahead of that.
func TestMany(t *testing.T) {
	// Five nodes are within 3, one within 12.
	for _, c := range []struct {
		h, nodes int
		deep     bool
	}{{3, 6, true}, {3, 1, false}, {12, 2, true}, {5, 1, true}} {
		last, over := stuffed(api.MaxNodes-c.nodes), stuffed(api.MaxNodes-c.nodes+1)
		for name, call := range map[string]func(f api.Forest) answer{
			"Clone":  func(f api.Forest) answer { return got(clone.Clone(f, c.h, c.deep)) },
			"Import": func(f api.Forest) answer { return got(clone.Import(f, 14, c.h, c.deep)) },
		} {
			if a := call(last); a.why != api.OK || len(a.g.Nodes) != api.MaxNodes || a.h != len(last.Nodes)+1 {
				t.Errorf("%s of %d: the last nodes: %d, %d", name, c.h, len(a.g.Nodes), a.why)
			}
			refuses(t, name+" of one more", call(over), api.ErrMany)
		}
	}
	full := stuffed(api.MaxNodes)
	for _, deep := range []bool{false, true} {
		refuses(t, "where there are MaxNodes", got(clone.Clone(full, 1, deep)), api.ErrMany)
		refuses(t, "a shadow root, where there are MaxNodes", got(clone.Clone(full, 8, deep)), api.ErrUnsupported)
		refuses(t, "a document, where there are MaxNodes", got(clone.Import(full, 1, 14, deep)), api.ErrUnsupported)
		refuses(t, "into no document, where there are MaxNodes", got(clone.Import(full, 3, 5, deep)), api.ErrType)
	}
}

// P10.1, P10.2: half of MaxNodes nodes, which hang in one, are copied at once: side by side, and one below the other.
func TestHalf(t *testing.T) {
	for name, parent := range map[string]func(h int) int{
		"side by side":        func(int) int { return 2 },
		"one below the other": func(h int) int { return h - 1 },
	} {
		f := forest.New(false)
		f.Nodes = append(f.Nodes, api.Node{Kind: api.KindElement, Name: local("e"), Doc: 1, Parent: 1})
		f.Nodes[0].Kids = []int{2}
		for h := 3; h <= api.MaxNodes/2; h++ {
			f.Nodes = append(f.Nodes, api.Node{Kind: api.KindElement, Name: local("e"), Doc: 1, Parent: parent(h)})
			f.Nodes[parent(h)-1].Kids = append(f.Nodes[parent(h)-1].Kids, h)
		}
		a := got(clone.Clone(f, 1, true))
		if a.why != api.OK || len(a.g.Nodes) != api.MaxNodes || len(a.l) != api.MaxNodes-1 {
			t.Fatalf("%s: %d nodes, %d changes, %d", name, len(a.g.Nodes), len(a.l), a.why)
		}
		if is, why := clone.Equal(a.g, 1, a.h); !is || why != api.OK {
			t.Errorf("%s: %t, %d", name, is, why)
		}
		f.Nodes = append(f.Nodes, api.Node{Kind: api.KindText, Doc: 1})
		refuses(t, name+", one more", got(clone.Clone(f, 1, true)), api.ErrMany)
	}
}

// P10.1 to P10.3: a forest that is not right is ErrForest first; then a handle of no node is ErrRange, then a node that is no document ErrType.
func TestWrong(t *testing.T) {
	ring, many := page(), stuffed(api.MaxNodes+1)
	ring.Nodes[2].Parent = 6
	for _, f := range []api.Forest{ring, many} {
		for _, h := range []int{0, 3, 8, 99999} {
			refuses(t, "Clone", got(clone.Clone(f, h, true)), api.ErrForest)
			refuses(t, "Import", got(clone.Import(f, h, h, true)), api.ErrForest)
			if is, why := clone.Equal(f, h, h); is || why != api.ErrForest {
				t.Error("Equal:", is, why)
			}
		}
	}
	for _, f := range []api.Forest{page(), {}} {
		for _, h := range []int{0, -1, 15, math.MaxInt, math.MinInt} {
			refuses(t, "Clone", got(clone.Clone(f, h, false)), api.ErrRange)
			refuses(t, "Import into none", got(clone.Import(f, h, 3, false)), api.ErrRange)
			refuses(t, "Import into none of a document", got(clone.Import(f, h, 1, false)), api.ErrRange)
			refuses(t, "Import of none", got(clone.Import(f, 1, h, false)), api.ErrRange)
			refuses(t, "Import of none into none", got(clone.Import(f, 3, h, false)), api.ErrRange)
			for _, other := range []int{3, h} {
				if is, why := clone.Equal(f, h, other); is || why != api.ErrRange {
					t.Error("Equal:", is, why)
				}
				if is, why := clone.Equal(f, other, h); is || why != api.ErrRange {
					t.Error("Equal:", is, why)
				}
			}
		}
	}
	for doc := 2; doc < 14; doc++ {
		for _, h := range []int{1, 3, 8, doc} {
			refuses(t, "Import into what is no document", got(clone.Import(page(), doc, h, true)), api.ErrType)
		}
	}
}

// P10.4: answers are new memory; what is handed in is neither changed nor kept.
func TestNewMemory(t *testing.T) {
	for _, deep := range []bool{false, true} {
		for h := 1; h <= 14; h++ {
			for name, call := range map[string]func(f api.Forest) (api.Forest, []api.Change){
				"Clone":  func(f api.Forest) (api.Forest, []api.Change) { g, l, _, _ := clone.Clone(f, h, deep); return g, l },
				"Import": func(f api.Forest) (api.Forest, []api.Change) { g, l, _, _ := clone.Import(f, 1, h, deep); return g, l },
				"Equal":  func(f api.Forest) (api.Forest, []api.Change) { clone.Equal(f, h, 3); return api.Forest{}, nil },
			} {
				if s := sample.Sharing(page(), call); s != "" {
					t.Errorf("%s of %d: %s", name, h, s)
				}
			}
		}
	}
}
