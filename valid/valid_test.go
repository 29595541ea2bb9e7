package valid_test

import (
	"math"
	"slices"
	"testing"

	"canopy/api"
	"canopy/forest"
	"canopy/sample"
	"canopy/valid"
)

func local(s string) api.Name { return api.Name{Local: s} }

// hang has a node more, as the last kid of a parent, if that is not 0, and answers its handle. What comes of it is as right as the asker makes it.
func hang(f *api.Forest, kind api.NodeKind, parent int) int {
	n, h := api.Node{Kind: kind, Doc: 1, Parent: parent}, len(f.Nodes)+1
	switch kind {
	case api.KindElement, api.KindDoctype, api.KindInstruction:
		n.Name = local("n")
	case api.KindDocument:
		n.Doc = h
	}
	if parent != 0 {
		n.Doc = f.Nodes[parent-1].Doc
		f.Nodes[parent-1].Kids = append(f.Nodes[parent-1].Kids, h)
	}
	f.Nodes = append(f.Nodes, n)
	return h
}

// shade gives an element a shadow root, and answers that.
func shade(f *api.Forest, host int) int {
	h := len(f.Nodes) + 1
	f.Nodes[host-1].Shadow = h
	f.Nodes = append(f.Nodes, api.Node{Kind: api.KindShadow, Doc: f.Nodes[host-1].Doc, Host: host, Mode: api.ShadowOpen})
	return h
}

// Kinds that a fragment, or a document, is made of.
const (
	e = api.KindElement
	x = api.KindText
	s = api.KindCData
	i = api.KindInstruction
	c = api.KindComment
	d = api.KindDoctype
)

// tops are lists of kids that a document may have: all that there are of comments and instructions around a doctype and an element.
func tops() [][]api.NodeKind {
	var all [][]api.NodeKind
	for bits := range 1 << 5 {
		var top []api.NodeKind
		for at, kind := range []api.NodeKind{c, d, i, e, c} {
			if bits>>at&1 == 1 {
				top = append(top, kind)
			}
		}
		all = append(all, top)
	}
	return all
}

// fragments are lists of kids that a fragment may have.
func fragments() [][]api.NodeKind {
	return [][]api.NodeKind{{}, {e}, {e, e}, {x}, {s}, {c}, {i}, {c, i}, {c, e, i}, {e, c, e}, {e, x}, {x, e}, {e, s}, {s, e}, {e, e, x}, {x, c}}
}

// yard is a forest with a document 1 of such kids, and of every other kind nodes that hang nowhere, and within others; of elements such with shadow trees.
func yard(top []api.NodeKind) api.Forest {
	f := forest.New(false)
	for _, kind := range top {
		hang(&f, kind, 1)
	}
	for _, kind := range []api.NodeKind{e, x, s, i, c, d, api.KindDocument} {
		hang(&f, kind, 0)
	}
	other := len(f.Nodes)
	hang(&f, c, other)
	hang(&f, d, other)
	hang(&f, e, other)
	for _, kids := range fragments() {
		h := hang(&f, api.KindFragment, 0)
		for _, kind := range kids {
			hang(&f, kind, h)
		}
	}
	host := hang(&f, e, 0)
	hang(&f, x, host)
	hang(&f, c, host)
	root := shade(&f, host)
	deep := hang(&f, e, root)
	hang(&f, s, root)
	hang(&f, i, shade(&f, deep))
	hang(&f, x, hang(&f, e, deep))
	return f
}

// found are the handles of a kind.
func found(f api.Forest, kind api.NodeKind) []int {
	var l []int
	for at, n := range f.Nodes {
		if n.Kind == kind {
			l = append(l, at+1)
		}
	}
	return l
}

// model says what the chapter's words say of a right forest, as plainly as can be.
type model struct{ f api.Forest }

func (m model) kind(h int) api.NodeKind { return m.f.Nodes[h-1].Kind }

func (m model) isText(h int) bool { return m.kind(h) == x || m.kind(h) == s }

// holds goes up from b, through shadow trees.
func (m model) holds(a, b int) bool {
	for b != 0 && b != a {
		b = m.f.Nodes[b-1].Parent + m.f.Nodes[b-1].Host
	}
	return b == a
}

func (m model) kids(h int) []int { return m.f.Nodes[h-1].Kids }

// count is how many of some nodes are of a kind.
func (m model) count(l []int, kind api.NodeKind) int {
	n := 0
	for _, h := range l {
		if m.kind(h) == kind {
			n++
		}
	}
	return n
}

func (m model) has(l []int, kind api.NodeKind) bool { return m.count(l, kind) > 0 }

func (m model) ahead(parent, child int) []int {
	return m.kids(parent)[:slices.Index(m.kids(parent), child)]
}

func (m model) behind(parent, child int) []int {
	return m.kids(parent)[slices.Index(m.kids(parent), child)+1:]
}

func (m model) none(h int) bool { return h < 1 || h > len(m.f.Nodes) }

// common is what Insert and Replace find ahead of what a document asks; further: that is still to be asked.
func (m model) common(node, parent, child int) (why api.Errno, further bool) {
	if m.none(node) || m.none(parent) || child != 0 && m.none(child) {
		return api.ErrRange, false
	}
	if k := m.kind(parent); k != api.KindDocument && k != api.KindFragment && k != api.KindShadow && k != e {
		return api.ErrHierarchy, false
	}
	if m.holds(node, parent) {
		return api.ErrHierarchy, false
	}
	if child != 0 && !slices.Contains(m.kids(parent), child) {
		return api.ErrNotFound, false
	}
	if m.kind(node) == api.KindDocument || m.kind(node) == api.KindShadow {
		return api.ErrHierarchy, false
	}
	document := m.kind(parent) == api.KindDocument
	if m.isText(node) && document || m.kind(node) == d && !document {
		return api.ErrHierarchy, false
	}
	return api.OK, document
}

// cluttered: a fragment that has more than one element, or a text.
func (m model) cluttered(node int) bool {
	kids := m.kids(node)
	return m.kind(node) == api.KindFragment && (m.count(kids, e) > 1 || m.has(kids, x) || m.has(kids, s))
}

// brings: an element, or a fragment that has one.
func (m model) brings(node int) bool {
	return m.kind(node) == e || m.kind(node) == api.KindFragment && m.count(m.kids(node), e) == 1
}

func (m model) insert(node, parent, child int) api.Errno {
	why, further := m.common(node, parent, child)
	if !further {
		return why
	}
	kids := m.kids(parent)
	switch {
	case m.cluttered(node):
		return api.ErrHierarchy
	case m.brings(node) && (m.has(kids, e) || child != 0 && (m.kind(child) == d || m.has(m.behind(parent, child), d))):
		return api.ErrHierarchy
	case m.kind(node) == d && (m.has(kids, d) || child != 0 && m.has(m.ahead(parent, child), e) || child == 0 && m.has(kids, e)):
		return api.ErrHierarchy
	}
	return api.OK
}

func (m model) replace(node, parent, child int) api.Errno {
	if child == 0 {
		return api.ErrRange
	}
	why, further := m.common(node, parent, child)
	if !further {
		return why
	}
	others := slices.DeleteFunc(slices.Clone(m.kids(parent)), func(h int) bool { return h == child })
	switch {
	case m.cluttered(node):
		return api.ErrHierarchy
	case m.brings(node) && (m.has(others, e) || m.has(m.behind(parent, child), d)):
		return api.ErrHierarchy
	case m.kind(node) == d && (m.has(others, d) || m.has(m.ahead(parent, child), e)):
		return api.ErrHierarchy
	}
	return api.OK
}

func (m model) adopt(node int) api.Errno {
	switch {
	case m.none(node):
		return api.ErrRange
	case m.kind(node) == api.KindDocument:
		return api.ErrUnsupported
	case m.kind(node) == api.KindShadow:
		return api.ErrHierarchy
	}
	return api.OK
}

// wantModel holds both calls against the model, and counts what is answered.
func wantModel(t *testing.T, f api.Forest, node, parent, child int, counts map[api.Errno]int) {
	t.Helper()
	m := model{f}
	if why, want := valid.Insert(f, node, parent, child), m.insert(node, parent, child); why != want {
		t.Fatalf("P8.2: Insert(%d, %d, %d) = %d, want %d: %+v", node, parent, child, why, want, f)
	}
	why, want := valid.Replace(f, node, parent, child), m.replace(node, parent, child)
	if why != want {
		t.Fatalf("P8.3: Replace(%d, %d, %d) = %d, want %d: %+v", node, parent, child, why, want, f)
	}
	counts[why]++
}

// P8.1 to P8.4: of documents with all kinds of kids, whatever is put where is as the model says.
func TestYards(t *testing.T) {
	counts := map[api.Errno]int{}
	for _, top := range tops() {
		f := yard(top)
		if why, at := forest.Check(f); why != api.OK {
			t.Fatal("the yard is not right at", at)
		}
		for node := range len(f.Nodes) + 2 {
			for child := range len(top) + 4 {
				wantModel(t, f, node, 1, child, counts)
			}
			if why, want := valid.Adopt(f, node), (model{f}).adopt(node); why != want {
				t.Fatalf("P8.4: Adopt(%d) = %d, want %d", node, why, want)
			}
		}
	}
	for _, why := range []api.Errno{api.OK, api.ErrHierarchy, api.ErrNotFound, api.ErrRange} {
		if counts[why] < 1000 {
			t.Error("too few of an error:", why, counts[why])
		}
	}
}

// P8.1 to P8.3: within all kinds of parents, whatever is put ahead of what.
func TestAnywhere(t *testing.T) {
	f := yard([]api.NodeKind{c, d, e})
	counts := map[api.Errno]int{}
	for node := range len(f.Nodes) + 2 {
		for parent := range len(f.Nodes) + 2 {
			for _, child := range append([]int{0, -1, 1, parent, node, len(f.Nodes), len(f.Nodes) + 1}, kidsOf(f, parent)...) {
				wantModel(t, f, node, parent, child, counts)
			}
		}
	}
	for seed := range 100 {
		dice := sample.NewDice(seed)
		f := sample.Grow(dice, 2+dice.Below(14))
		for range 200 {
			node, parent, child := dice.Below(len(f.Nodes)+2), dice.Below(len(f.Nodes)+2), dice.Below(len(f.Nodes)+2)
			if kids := kidsOf(f, parent); len(kids) > 0 && dice.Below(2) == 0 {
				child = kids[dice.Below(len(kids))]
			}
			wantModel(t, f, node, parent, child, counts)
		}
	}
}

func kidsOf(f api.Forest, h int) []int {
	if h < 1 || h > len(f.Nodes) {
		return nil
	}
	return f.Nodes[h-1].Kids
}

// wantCalls sees what all three calls answer: Adopt's is asked of the node alone.
func wantCalls(t *testing.T, f api.Forest, node, parent, child int, insert, replace, adopt api.Errno) {
	t.Helper()
	got := [3]api.Errno{valid.Insert(f, node, parent, child), valid.Replace(f, node, parent, child), valid.Adopt(f, node)}
	if got != [3]api.Errno{insert, replace, adopt} {
		t.Errorf("(%d, %d, %d): %v", node, parent, child, got)
	}
}

// P8.1: a forest that is not right goes ahead of handles of none, and these of all else.
func TestErrorsAhead(t *testing.T) {
	bad := yard([]api.NodeKind{d, e})
	bad.Nodes[1].Parent = 2
	many := api.Forest{Nodes: make([]api.Node, api.MaxNodes+1)}
	for _, f := range []api.Forest{bad, many, {Nodes: make([]api.Node, 1)}} {
		for _, h := range []int{math.MinInt, -1, 0, 1, 2, math.MaxInt} {
			wantCalls(t, f, h, 1, 0, api.ErrForest, api.ErrForest, api.ErrForest)
			wantCalls(t, f, 3, h, 1, api.ErrForest, api.ErrForest, api.ErrForest)
			wantCalls(t, f, 4, 1, h, api.ErrForest, api.ErrForest, api.ErrForest)
		}
	}
	f := yard([]api.NodeKind{d, e})
	text := found(f, x)[0]
	for _, h := range []int{math.MinInt, -1, len(f.Nodes) + 1, math.MaxInt} {
		wantCalls(t, f, h, 1, 2, api.ErrRange, api.ErrRange, api.ErrRange)
		wantCalls(t, f, 0, 1, 2, api.ErrRange, api.ErrRange, api.ErrRange)
		wantCalls(t, f, h, text, 0, api.ErrRange, api.ErrRange, api.ErrRange)
		wantCalls(t, f, text, h, 2, api.ErrRange, api.ErrRange, api.OK)
		wantCalls(t, f, text, 0, 2, api.ErrRange, api.ErrRange, api.OK)
		wantCalls(t, f, text, text, h, api.ErrRange, api.ErrRange, api.OK)
		wantCalls(t, f, 1, 1, h, api.ErrRange, api.ErrRange, api.ErrUnsupported)
		wantCalls(t, api.Forest{}, h, h, 0, api.ErrRange, api.ErrRange, api.ErrRange)
	}
	wantCalls(t, f, 1, 1, 0, api.ErrHierarchy, api.ErrRange, api.ErrUnsupported)
	wantCalls(t, f, text, text, 0, api.ErrHierarchy, api.ErrRange, api.OK)
}

// P8.2, P8.3: what parents may not have kids, and what holds the parent, go ahead of a child that is none of it; that goes ahead of the rest.
func TestOrderOfErrors(t *testing.T) {
	f := yard([]api.NodeKind{d, e})
	other, text, cdata, host := found(f, api.KindDocument)[1], found(f, x)[0], found(f, s)[0], found(f, api.KindShadow)[0]
	for _, parent := range []int{text, cdata, found(f, i)[0], found(f, c)[0], 2} {
		wantCalls(t, f, text, parent, 3, api.ErrHierarchy, api.ErrHierarchy, api.OK)
	}
	wantCalls(t, f, 1, 3, other, api.ErrHierarchy, api.ErrHierarchy, api.ErrUnsupported)
	wantCalls(t, f, 3, 3, 2, api.ErrHierarchy, api.ErrHierarchy, api.OK)
	wantCalls(t, f, other, 3, 2, api.ErrNotFound, api.ErrNotFound, api.ErrUnsupported)
	wantCalls(t, f, host, 3, 2, api.ErrNotFound, api.ErrNotFound, api.ErrHierarchy)
	wantCalls(t, f, text, 1, 1, api.ErrNotFound, api.ErrNotFound, api.OK)
	wantCalls(t, f, 2, 3, 3, api.ErrNotFound, api.ErrNotFound, api.OK)
	wantCalls(t, f, text, 1, 2, api.ErrHierarchy, api.ErrHierarchy, api.OK)
	wantCalls(t, f, cdata, 1, 3, api.ErrHierarchy, api.ErrHierarchy, api.OK)
	wantCalls(t, f, other, 1, 3, api.ErrHierarchy, api.ErrHierarchy, api.ErrUnsupported)
	wantCalls(t, f, host, 1, 3, api.ErrHierarchy, api.ErrHierarchy, api.ErrHierarchy)
}

// doc is a document of such kids, 2 and on, and a node of a kind that hangs nowhere, behind them; or a fragment of some kids.
func doc(top []api.NodeKind, kind api.NodeKind, kids ...api.NodeKind) (api.Forest, int) {
	f := forest.New(true)
	for _, one := range top {
		hang(&f, one, 1)
	}
	h := hang(&f, kind, 0)
	for _, one := range kids {
		hang(&f, one, h)
	}
	return f, h
}

// P8.2, P8.3: what documents may have, by hand: the answers of Insert with child 0 and ahead of each kid, and those of Replace of each kid; h is refused.
func TestDocuments(t *testing.T) {
	const ok, h = api.OK, api.ErrHierarchy
	fragment := api.KindFragment
	for _, c := range []struct {
		top     []api.NodeKind
		kind    api.NodeKind
		kids    []api.NodeKind
		insert  []api.Errno
		instead []api.Errno
	}{
		{nil, e, nil, []api.Errno{ok}, nil},
		{nil, d, nil, []api.Errno{ok}, nil},
		{nil, c, nil, []api.Errno{ok}, nil},
		{nil, i, nil, []api.Errno{ok}, nil},
		{nil, x, nil, []api.Errno{h}, nil},
		{nil, s, nil, []api.Errno{h}, nil},
		{nil, fragment, nil, []api.Errno{ok}, nil},
		{nil, fragment, []api.NodeKind{e}, []api.Errno{ok}, nil},
		{nil, fragment, []api.NodeKind{c, e, i}, []api.Errno{ok}, nil},
		{nil, fragment, []api.NodeKind{e, e}, []api.Errno{h}, nil},
		{nil, fragment, []api.NodeKind{x}, []api.Errno{h}, nil},
		{nil, fragment, []api.NodeKind{c, s}, []api.Errno{h}, nil},
		{[]api.NodeKind{c, d, c}, e, nil, []api.Errno{ok, h, h, ok}, []api.Errno{h, ok, ok}},
		{[]api.NodeKind{c, d, c}, fragment, []api.NodeKind{e}, []api.Errno{ok, h, h, ok}, []api.Errno{h, ok, ok}},
		{[]api.NodeKind{c, d, c}, fragment, []api.NodeKind{c}, []api.Errno{ok, ok, ok, ok}, []api.Errno{ok, ok, ok}},
		{[]api.NodeKind{c, d, c}, fragment, nil, []api.Errno{ok, ok, ok, ok}, []api.Errno{ok, ok, ok}},
		{[]api.NodeKind{c, d, c}, fragment, []api.NodeKind{e, e}, []api.Errno{h, h, h, h}, []api.Errno{h, h, h}},
		{[]api.NodeKind{c, d, c}, fragment, []api.NodeKind{x}, []api.Errno{h, h, h, h}, []api.Errno{h, h, h}},
		{[]api.NodeKind{c, d, c}, d, nil, []api.Errno{h, h, h, h}, []api.Errno{h, ok, h}},
		{[]api.NodeKind{c, d, c}, i, nil, []api.Errno{ok, ok, ok, ok}, []api.Errno{ok, ok, ok}},
		{[]api.NodeKind{c, e, c}, e, nil, []api.Errno{h, h, h, h}, []api.Errno{h, ok, h}},
		{[]api.NodeKind{c, e, c}, fragment, []api.NodeKind{e}, []api.Errno{h, h, h, h}, []api.Errno{h, ok, h}},
		{[]api.NodeKind{c, e, c}, d, nil, []api.Errno{h, ok, ok, h}, []api.Errno{ok, ok, h}},
		{[]api.NodeKind{c, d, e}, e, nil, []api.Errno{h, h, h, h}, []api.Errno{h, h, ok}},
		{[]api.NodeKind{c, d, e}, d, nil, []api.Errno{h, h, h, h}, []api.Errno{h, ok, h}},
		{[]api.NodeKind{c, d, e}, fragment, []api.NodeKind{c, e}, []api.Errno{h, h, h, h}, []api.Errno{h, h, ok}},
		{[]api.NodeKind{c, d, e}, c, nil, []api.Errno{ok, ok, ok, ok}, []api.Errno{ok, ok, ok}},
	} {
		f, node := doc(c.top, c.kind, c.kids...)
		for at, want := range c.insert {
			child := 0
			if at > 0 {
				child = at + 1
			}
			if why := valid.Insert(f, node, 1, child); why != want {
				t.Errorf("Insert of %d%v into %v ahead of %d: %d", c.kind, c.kids, c.top, child, why)
			}
		}
		for at, want := range c.instead {
			if why := valid.Replace(f, node, 1, at+2); why != want {
				t.Errorf("Replace of %d%v in %v of %d: %d", c.kind, c.kids, c.top, at+2, why)
			}
		}
	}
}

// P8.2, P8.3: a kid that is put ahead of itself, or in its own place, or elsewhere in its document.
func TestItself(t *testing.T) {
	f, _ := doc([]api.NodeKind{c, d, i, e}, e)
	for _, x := range []struct {
		node, child     int
		insert, replace api.Errno
	}{
		{2, 2, api.OK, api.OK}, {4, 4, api.OK, api.OK}, {2, 5, api.OK, api.OK}, {4, 2, api.OK, api.OK},
		{3, 3, api.ErrHierarchy, api.OK}, {5, 5, api.ErrHierarchy, api.OK}, {3, 2, api.ErrHierarchy, api.ErrHierarchy},
		{5, 2, api.ErrHierarchy, api.ErrHierarchy}, {5, 4, api.ErrHierarchy, api.ErrHierarchy}, {5, 3, api.ErrHierarchy, api.ErrHierarchy}, {3, 4, api.ErrHierarchy, api.ErrHierarchy},
	} {
		wantCalls(t, f, x.node, 1, x.child, x.insert, x.replace, api.OK)
	}
}

// P8.2, P8.7: through shadow trees, too, a node that holds the parent is not let in, nor the parent itself.
func TestRings(t *testing.T) {
	f := yard([]api.NodeKind{d, e})
	root := found(f, api.KindShadow)[0]
	host, deep := f.Nodes[root-1].Host, f.Nodes[root-1].Kids[0]
	within := f.Nodes[f.Nodes[deep-1].Shadow-1].Kids[0]
	for _, parent := range []int{root, deep, f.Nodes[deep-1].Shadow, f.Nodes[deep-1].Kids[0]} {
		wantCalls(t, f, host, parent, 0, api.ErrHierarchy, api.ErrRange, api.OK)
		wantCalls(t, f, host, parent, 2, api.ErrHierarchy, api.ErrHierarchy, api.OK)
	}
	wantCalls(t, f, deep, f.Nodes[deep-1].Shadow, within, api.ErrHierarchy, api.ErrHierarchy, api.OK)
	wantCalls(t, f, deep, host, f.Nodes[host-1].Kids[0], api.OK, api.OK, api.OK)
	wantCalls(t, f, deep, root, f.Nodes[root-1].Kids[1], api.OK, api.OK, api.OK)
	for seed := range 200 {
		dice := sample.NewDice(seed)
		f := sample.Grow(dice, 2+dice.Below(14))
		for node := 1; node <= len(f.Nodes); node++ {
			for parent := 1; parent <= len(f.Nodes); parent++ {
				if !(model{f}).holds(node, parent) {
					continue
				}
				for child := range len(f.Nodes) + 1 {
					if valid.Insert(f, node, parent, child) == api.OK || valid.Replace(f, node, parent, child) == api.OK {
						t.Fatalf("P8.7: %d is let into %d: %+v", node, parent, f)
					}
				}
			}
		}
	}
}

// The chapter's examples.
func TestExamples(t *testing.T) {
	f, _ := doc([]api.NodeKind{d, e}, e)
	hang(&f, x, 0)
	for _, c := range []struct {
		call                func(api.Forest, int, int, int) api.Errno
		node, parent, child int
		want                api.Errno
	}{
		{valid.Insert, 4, 1, 0, api.ErrHierarchy}, {valid.Replace, 4, 1, 3, api.OK}, {valid.Insert, 5, 1, 0, api.ErrHierarchy}, {valid.Insert, 5, 3, 0, api.OK},
		{valid.Insert, 1, 3, 0, api.ErrHierarchy}, {valid.Insert, 5, 3, 2, api.ErrNotFound}, {valid.Insert, 2, 4, 0, api.ErrHierarchy}, {valid.Replace, 4, 1, 2, api.ErrHierarchy},
	} {
		if why := c.call(f, c.node, c.parent, c.child); why != c.want {
			t.Errorf("(%d, %d, %d) = %d, want %d", c.node, c.parent, c.child, why, c.want)
		}
	}
}
