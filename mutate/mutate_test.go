package mutate_test

import (
	"slices"
	"testing"

	"canopy/api"
	"canopy/forest"
	"canopy/mutate"
	"canopy/sample"
)

func local(s string) api.Name { return api.Name{Local: s} }

// of are the units of an ASCII text.
func of(s string) api.Units {
	var u api.Units
	for _, b := range []byte(s) {
		u = append(u, uint16(b))
	}
	return u
}

// page has every kind of node, two documents, shadow trees, fragments with no kids, one and some, and nodes that hang nowhere.
func page() api.Forest {
	return api.Forest{Nodes: []api.Node{
		{Kind: api.KindDocument, Kids: []int{2, 3, 4}, Doc: 1, HTML: true},
		{Kind: api.KindDoctype, Name: local("html"), Parent: 1, Doc: 1},
		{Kind: api.KindElement, Name: local("p"), Attrs: []api.Attr{{Name: local("id"), Value: "v"}}, Parent: 1, Kids: []int{5, 6, 7, 8}, Doc: 1},
		{Kind: api.KindComment, Data: of("end"), Parent: 1, Doc: 1},
		{Kind: api.KindText, Data: of("a"), Parent: 3, Doc: 1},
		{Kind: api.KindElement, Name: local("b"), Parent: 3, Kids: []int{9}, Doc: 1, Shadow: 10},
		{Kind: api.KindText, Data: of("c"), Parent: 3, Doc: 1},
		{Kind: api.KindComment, Data: of("d"), Parent: 3, Doc: 1},
		{Kind: api.KindText, Data: of("x"), Parent: 6, Doc: 1},
		{Kind: api.KindShadow, Kids: []int{11}, Doc: 1, Host: 6, Mode: api.ShadowOpen},
		{Kind: api.KindElement, Name: local("i"), Parent: 10, Doc: 1},
		{Kind: api.KindFragment, Doc: 1},
		{Kind: api.KindFragment, Kids: []int{14}, Doc: 1},
		{Kind: api.KindComment, Parent: 13, Doc: 1},
		{Kind: api.KindFragment, Kids: []int{16, 17, 19}, Doc: 20},
		{Kind: api.KindText, Data: of("f"), Parent: 15, Doc: 20},
		{Kind: api.KindElement, Name: local("g"), Parent: 15, Kids: []int{18}, Doc: 20},
		{Kind: api.KindText, Data: of("y"), Parent: 17, Doc: 20},
		{Kind: api.KindComment, Parent: 15, Doc: 20},
		{Kind: api.KindDocument, Kids: []int{21}, Doc: 20},
		{Kind: api.KindElement, Name: local("q"), Parent: 20, Kids: []int{22}, Doc: 20},
		{Kind: api.KindText, Data: of("t"), Parent: 21, Doc: 20},
		{Kind: api.KindElement, Name: local("new"), Doc: 1},
		{Kind: api.KindElement, Name: local("host"), Kids: []int{27}, Doc: 20, Shadow: 25},
		{Kind: api.KindShadow, Kids: []int{26}, Doc: 20, Host: 24, Mode: api.ShadowClosed},
		{Kind: api.KindElement, Name: local("in"), Parent: 25, Doc: 20},
		{Kind: api.KindText, Data: of("k"), Parent: 24, Doc: 20},
		{Kind: api.KindText, Data: of("lone"), Doc: 1},
		{Kind: api.KindCData, Data: of("cd"), Doc: 1},
		{Kind: api.KindInstruction, Name: local("go"), Data: of("on"), Doc: 1},
		{Kind: api.KindDoctype, Name: local("svg"), Doc: 20},
	}}
}

// The changes that operations are made of.

func ins(node, parent, at int) api.Change {
	return api.Change{Kind: api.ChangeInsert, Node: node, Parent: parent, Index: at}
}

func rem(node, parent, at int) api.Change {
	return api.Change{Kind: api.ChangeRemove, Node: node, Parent: parent, Index: at}
}

func adopted(node, doc int) api.Change {
	return api.Change{Kind: api.ChangeAdopt, Node: node, Doc: doc}
}

func tree(parent int, added, removed []int, prev, next int) api.Change {
	return api.Change{Kind: api.ChangeTree, Parent: parent, Added: added, Removed: removed, Prev: prev, Next: next}
}

func made(h int, n api.Node) api.Change {
	return api.Change{Kind: api.ChangeMake, Node: h, Made: n}
}

// some is a list of handles, so that it is told apart from another one beside it.
func some(h ...int) []int { return h }

// answer is what a call answers.
type answer struct {
	g   api.Forest
	l   []api.Change
	why api.Errno
}

func got(g api.Forest, l []api.Change, why api.Errno) answer { return answer{g, l, why} }

// wants sees that a call did these changes, and has the forest behind them.
func wants(t *testing.T, what string, f api.Forest, a answer, want ...api.Change) {
	t.Helper()
	g, _, why := forest.All(f, want)
	if why != api.OK {
		t.Fatalf("%s: what is wanted can't be done: %d", what, why)
	}
	if a.why != api.OK || !sample.SameChanges(a.l, want) || !forest.Same(a.g, g) {
		t.Errorf("%s: %+v, %d; want %+v", what, a.l, a.why, want)
	}
}

// refuses sees that a call says why, and nothing else.
func refuses(t *testing.T, what string, a answer, why api.Errno) {
	t.Helper()
	if a.why != why || a.g.Nodes != nil || a.l != nil {
		t.Errorf("%s: error %d, want %d; %v", what, a.why, why, a.l)
	}
}

// wantKids sees which kids a node has.
func wantKids(t *testing.T, what string, a answer, h int, kids ...int) {
	t.Helper()
	if a.why != api.OK || !slices.Equal(kidsOf(a.g, h), kids) {
		t.Errorf("%s: the kids of %d are %v, want %v; error %d", what, h, kidsOf(a.g, h), kids, a.why)
	}
}

// Chapter 9, example 1.
func TestFirstExample(t *testing.T) {
	f, _, _ := forest.Add(forest.New(true), api.Node{Kind: api.KindElement, Name: local("p"), Doc: 1})
	first := got(mutate.Append(f, 2, 1))
	wants(t, "an element into a document", f, first, ins(2, 1, 0), tree(1, some(2), nil, 0, 0))
	refuses(t, "once more", got(mutate.Append(first.g, 2, 1)), api.ErrHierarchy)
	f, _, _ = forest.Add(first.g, api.Node{Kind: api.KindText, Doc: 1})
	g, _, _ := mutate.Append(f, 3, 2)
	wants(t, "the last kid", g, got(mutate.Append(g, 3, 2)),
		rem(3, 2, 0), tree(2, nil, some(3), 0, 0), ins(3, 2, 0), tree(2, some(3), nil, 3, 0))
}

// Chapter 9, example 2.
func TestSecondExample(t *testing.T) {
	a := got(mutate.Normalize(row("a", "", "b"), 2))
	wantKids(t, "Normalize", a, 2, 3)
	if a.why == api.OK && !slices.Equal(a.g.Nodes[2].Data, of("ab")) {
		t.Error(a.g.Nodes[2].Data)
	}
	wants(t, "by itself", page(), got(mutate.Replace(page(), 6, 3, 6)),
		rem(6, 3, 1), ins(6, 3, 1), tree(3, some(6), some(6), 5, 7))
}

// 9.1, Words (putting): a node that hangs nowhere, at each kind of place; its own document and another one.
func TestInsert(t *testing.T) {
	for _, c := range []struct {
		what                string
		node, parent, child int
		want                []api.Change
	}{
		{"ahead of a kid", 23, 3, 6, []api.Change{ins(23, 3, 1), tree(3, some(23), nil, 5, 6)}},
		{"ahead of the first kid", 23, 3, 5, []api.Change{ins(23, 3, 0), tree(3, some(23), nil, 0, 5)}},
		{"at the end", 23, 3, 0, []api.Change{ins(23, 3, 4), tree(3, some(23), nil, 8, 0)}},
		{"where there are no kids", 28, 23, 0, []api.Change{ins(28, 23, 0), tree(23, some(28), nil, 0, 0)}},
		{"into a shadow root", 23, 10, 11, []api.Change{ins(23, 10, 0), tree(10, some(23), nil, 0, 11)}},
		{"into a fragment", 29, 13, 0, []api.Change{ins(29, 13, 1), tree(13, some(29), nil, 14, 0)}},
		{"into a document", 30, 1, 2, []api.Change{ins(30, 1, 0), tree(1, some(30), nil, 0, 2)}},
		{"of another document, with its shadow tree", 24, 3, 0, []api.Change{
			adopted(24, 1), ins(24, 3, 4), tree(3, some(24), nil, 8, 0)}},
		{"of another document, with a parent", 22, 3, 7, []api.Change{
			rem(22, 21, 0), tree(21, nil, some(22), 0, 0), adopted(22, 1), ins(22, 3, 2), tree(3, some(22), nil, 6, 7)}},
		{"from another parent", 9, 3, 5, []api.Change{
			rem(9, 6, 0), tree(6, nil, some(9), 0, 0), ins(9, 3, 0), tree(3, some(9), nil, 0, 5)}},
	} {
		wants(t, c.what, page(), got(mutate.Insert(page(), c.node, c.parent, c.child)), c.want...)
	}
}

// 9.1, Words (putting): a kid of the parent goes to another place in it, or comes back to its own.
func TestInsertSibling(t *testing.T) {
	for _, c := range []struct {
		what        string
		node, child int
		want        []api.Change
	}{
		{"ahead of itself", 6, 6, []api.Change{
			rem(6, 3, 1), tree(3, nil, some(6), 5, 7), ins(6, 3, 1), tree(3, some(6), nil, 6, 7)}},
		{"the first one ahead of itself", 5, 5, []api.Change{
			rem(5, 3, 0), tree(3, nil, some(5), 0, 6), ins(5, 3, 0), tree(3, some(5), nil, 5, 6)}},
		{"the last one ahead of itself", 8, 8, []api.Change{
			rem(8, 3, 3), tree(3, nil, some(8), 7, 0), ins(8, 3, 3), tree(3, some(8), nil, 8, 0)}},
		{"ahead of the one behind it", 5, 6, []api.Change{
			rem(5, 3, 0), tree(3, nil, some(5), 0, 6), ins(5, 3, 0), tree(3, some(5), nil, 5, 6)}},
		{"the last one to the front", 8, 5, []api.Change{
			rem(8, 3, 3), tree(3, nil, some(8), 7, 0), ins(8, 3, 0), tree(3, some(8), nil, 0, 5)}},
		{"the first one to the end", 5, 0, []api.Change{
			rem(5, 3, 0), tree(3, nil, some(5), 0, 6), ins(5, 3, 3), tree(3, some(5), nil, 8, 0)}},
	} {
		wants(t, c.what, page(), got(mutate.Insert(page(), c.node, 3, c.child)), c.want...)
	}
}

// Words (putting): fragments with no kids, with one, with some.
func TestInsertFragment(t *testing.T) {
	wants(t, "no kids", page(), got(mutate.Insert(page(), 12, 3, 5)))
	wants(t, "no kids, at the end", page(), got(mutate.Append(page(), 12, 23)))
	wants(t, "one kid", page(), got(mutate.Insert(page(), 13, 1, 3)),
		rem(14, 13, 0), tree(13, nil, some(14), 0, 0), ins(14, 1, 1), tree(1, some(14), nil, 2, 3))
	a := got(mutate.Insert(page(), 15, 6, 9))
	wants(t, "some kids, of another document", page(), a,
		rem(16, 15, 0), rem(17, 15, 0), rem(19, 15, 0), tree(15, nil, some(16, 17, 19), 0, 0),
		adopted(16, 1), ins(16, 6, 0), adopted(17, 1), ins(17, 6, 1), adopted(19, 1), ins(19, 6, 2),
		tree(6, some(16, 17, 19), nil, 0, 9))
	if a.g.Nodes[17].Doc != 1 || a.g.Nodes[14].Doc != 20 {
		t.Error("the Docs of what is within, and of the fragment:", a.g.Nodes[17].Doc, a.g.Nodes[14].Doc)
	}
	wants(t, "into another fragment", page(), got(mutate.Append(page(), 13, 15)),
		rem(14, 13, 0), tree(13, nil, some(14), 0, 0), adopted(14, 20), ins(14, 15, 3), tree(15, some(14), nil, 19, 0))
}

// 9.1: Append is Insert with 0.
func TestAppend(t *testing.T) {
	f := page()
	for node := range len(f.Nodes) + 2 {
		for parent := range len(f.Nodes) + 2 {
			a, b := got(mutate.Append(f, node, parent)), got(mutate.Insert(f, node, parent, 0))
			if a.why != b.why || !forest.Same(a.g, b.g) || !sample.SameChanges(a.l, b.l) {
				t.Errorf("Append(%d, %d): %+v, %d; Insert: %+v, %d", node, parent, a.l, a.why, b.l, b.why)
			}
		}
	}
}

// 9.1: Remove tells what stood beside the child; of no kid of the parent it is ErrNotFound.
func TestRemove(t *testing.T) {
	wants(t, "the first one", page(), got(mutate.Remove(page(), 3, 5)), rem(5, 3, 0), tree(3, nil, some(5), 0, 6))
	wants(t, "between others", page(), got(mutate.Remove(page(), 3, 6)), rem(6, 3, 1), tree(3, nil, some(6), 5, 7))
	wants(t, "the last one", page(), got(mutate.Remove(page(), 3, 8)), rem(8, 3, 3), tree(3, nil, some(8), 7, 0))
	wants(t, "the only one", page(), got(mutate.Remove(page(), 6, 9)), rem(9, 6, 0), tree(6, nil, some(9), 0, 0))
	wants(t, "a doctype", page(), got(mutate.Remove(page(), 1, 2)), rem(2, 1, 0), tree(1, nil, some(2), 0, 3))
	wants(t, "of a shadow root", page(), got(mutate.Remove(page(), 10, 11)), rem(11, 10, 0), tree(10, nil, some(11), 0, 0))
	for _, c := range [][2]int{{1, 5}, {6, 10}, {3, 23}, {3, 3}, {5, 3}, {23, 1}, {21, 5}, {5, 6}} {
		refuses(t, "no kid", got(mutate.Remove(page(), c[0], c[1])), api.ErrNotFound)
	}
}

// 9.1, Words (adopting): with a parent and without one, into its own document and into another one.
func TestAdopt(t *testing.T) {
	wants(t, "with a parent, into its own", page(), got(mutate.Adopt(page(), 9, 1)), rem(9, 6, 0), tree(6, nil, some(9), 0, 0))
	wants(t, "with a parent, into another one", page(), got(mutate.Adopt(page(), 6, 20)),
		rem(6, 3, 1), tree(3, nil, some(6), 5, 7), adopted(6, 20))
	wants(t, "without one, into its own", page(), got(mutate.Adopt(page(), 23, 1)))
	wants(t, "without one, into another one", page(), got(mutate.Adopt(page(), 23, 20)), adopted(23, 20))
	wants(t, "a fragment, into its own", page(), got(mutate.Adopt(page(), 15, 20)))
	wants(t, "a fragment, into another one", page(), got(mutate.Adopt(page(), 15, 1)), adopted(15, 1))
	wants(t, "a doctype", page(), got(mutate.Adopt(page(), 2, 20)), rem(2, 1, 0), tree(1, nil, some(2), 0, 3), adopted(2, 20))
	g, _, why := mutate.Adopt(page(), 24, 1)
	if why != api.OK {
		t.Fatal(why)
	}
	for _, h := range []int{24, 25, 26, 27} {
		if g.Nodes[h-1].Doc != 1 {
			t.Errorf("the Doc of %d below a host: %d", h, g.Nodes[h-1].Doc)
		}
	}
}

// 9.1: what is no document adopts nothing; no document and no shadow root is adopted.
func TestAdoptWrong(t *testing.T) {
	for _, doc := range []int{2, 3, 4, 5, 10, 12, 29, 30} {
		for _, node := range []int{1, 3, 10, 23, doc} {
			refuses(t, "into no document", got(mutate.Adopt(page(), node, doc)), api.ErrType)
		}
	}
	for _, doc := range []int{1, 20} {
		refuses(t, "a document", got(mutate.Adopt(page(), 1, doc)), api.ErrUnsupported)
		refuses(t, "a shadow root", got(mutate.Adopt(page(), 10, doc)), api.ErrHierarchy)
	}
}

// 9.2: a node that hangs nowhere, or in another parent, or is a fragment, comes in a child's place.
func TestReplace(t *testing.T) {
	for _, c := range []struct {
		what                string
		node, parent, child int
		want                []api.Change
	}{
		{"between others", 23, 3, 6, []api.Change{rem(6, 3, 1), ins(23, 3, 1), tree(3, some(23), some(6), 5, 7)}},
		{"the first one", 23, 3, 5, []api.Change{rem(5, 3, 0), ins(23, 3, 0), tree(3, some(23), some(5), 0, 6)}},
		{"the last one", 23, 3, 8, []api.Change{rem(8, 3, 3), ins(23, 3, 3), tree(3, some(23), some(8), 7, 0)}},
		{"the only one", 29, 6, 9, []api.Change{rem(9, 6, 0), ins(29, 6, 0), tree(6, some(29), some(9), 0, 0)}},
		{"by what is within it", 9, 3, 6, []api.Change{
			rem(6, 3, 1), rem(9, 6, 0), tree(6, nil, some(9), 0, 0), ins(9, 3, 1), tree(3, some(9), some(6), 5, 7)}},
		{"by what is in its shadow tree", 11, 3, 6, []api.Change{
			rem(6, 3, 1), rem(11, 10, 0), tree(10, nil, some(11), 0, 0), ins(11, 3, 1), tree(3, some(11), some(6), 5, 7)}},
		{"a document's element, by another one's", 21, 1, 3, []api.Change{
			rem(3, 1, 1), rem(21, 20, 0), tree(20, nil, some(21), 0, 0), adopted(21, 1), ins(21, 1, 1), tree(1, some(21), some(3), 2, 4)}},
		{"a doctype", 31, 1, 2, []api.Change{
			rem(2, 1, 0), adopted(31, 1), ins(31, 1, 0), tree(1, some(31), some(2), 0, 3)}},
		{"by a fragment with no kids", 12, 3, 6, []api.Change{rem(6, 3, 1), tree(3, nil, some(6), 5, 7)}},
		{"by a fragment with one", 13, 1, 3, []api.Change{
			rem(3, 1, 1), rem(14, 13, 0), tree(13, nil, some(14), 0, 0), ins(14, 1, 1), tree(1, some(14), some(3), 2, 4)}},
		{"by a fragment with some", 15, 3, 8, []api.Change{
			rem(8, 3, 3), rem(16, 15, 0), rem(17, 15, 0), rem(19, 15, 0), tree(15, nil, some(16, 17, 19), 0, 0),
			adopted(16, 1), ins(16, 3, 3), adopted(17, 1), ins(17, 3, 4), adopted(19, 1), ins(19, 3, 5),
			tree(3, some(16, 17, 19), some(8), 7, 0)}},
	} {
		wants(t, c.what, page(), got(mutate.Replace(page(), c.node, c.parent, c.child)), c.want...)
	}
}

// 9.2: the kid behind child is the node; child is the node itself; the node stands elsewhere in the parent.
func TestReplaceSibling(t *testing.T) {
	for _, c := range []struct {
		what        string
		node, child int
		want        []api.Change
	}{
		{"by the kid behind it", 7, 6, []api.Change{
			rem(6, 3, 1), rem(7, 3, 1), tree(3, nil, some(7), 5, 8), ins(7, 3, 1), tree(3, some(7), some(6), 5, 8)}},
		{"by the last kid, behind it", 8, 7, []api.Change{
			rem(7, 3, 2), rem(8, 3, 2), tree(3, nil, some(8), 6, 0), ins(8, 3, 2), tree(3, some(8), some(7), 6, 0)}},
		{"by itself, the first one", 5, 5, []api.Change{rem(5, 3, 0), ins(5, 3, 0), tree(3, some(5), some(5), 0, 6)}},
		{"by itself, the last one", 8, 8, []api.Change{rem(8, 3, 3), ins(8, 3, 3), tree(3, some(8), some(8), 7, 0)}},
		{"by the kid ahead of it", 5, 6, []api.Change{
			rem(6, 3, 1), rem(5, 3, 0), tree(3, nil, some(5), 0, 7), ins(5, 3, 0), tree(3, some(5), some(6), 5, 7)}},
		{"by one far behind", 8, 5, []api.Change{
			rem(5, 3, 0), rem(8, 3, 2), tree(3, nil, some(8), 7, 0), ins(8, 3, 0), tree(3, some(8), some(5), 0, 6)}},
		{"by one far ahead", 5, 8, []api.Change{
			rem(8, 3, 3), rem(5, 3, 0), tree(3, nil, some(5), 0, 6), ins(5, 3, 2), tree(3, some(5), some(8), 7, 0)}},
	} {
		wants(t, c.what, page(), got(mutate.Replace(page(), c.node, 3, c.child)), c.want...)
	}
	wants(t, "a document's element by itself", page(), got(mutate.Replace(page(), 3, 1, 3)),
		rem(3, 1, 1), ins(3, 1, 1), tree(1, some(3), some(3), 2, 4))
}

// 9.3: with none, of a parent without kids, with a fragment.
func TestReplaceAll(t *testing.T) {
	wants(t, "by none", page(), got(mutate.ReplaceAll(page(), 3, 0)),
		rem(5, 3, 0), rem(6, 3, 0), rem(7, 3, 0), rem(8, 3, 0), tree(3, nil, some(5, 6, 7, 8), 0, 0))
	wants(t, "none by none", page(), got(mutate.ReplaceAll(page(), 23, 0)))
	wants(t, "none by a fragment without kids", page(), got(mutate.ReplaceAll(page(), 23, 12)))
	wants(t, "none by one", page(), got(mutate.ReplaceAll(page(), 23, 28)), ins(28, 23, 0), tree(23, some(28), nil, 0, 0))
	wants(t, "by a fragment without kids", page(), got(mutate.ReplaceAll(page(), 6, 12)),
		rem(9, 6, 0), tree(6, nil, some(9), 0, 0))
	wants(t, "by a fragment", page(), got(mutate.ReplaceAll(page(), 6, 15)),
		rem(9, 6, 0), rem(16, 15, 0), rem(17, 15, 0), rem(19, 15, 0), tree(15, nil, some(16, 17, 19), 0, 0),
		adopted(16, 1), ins(16, 6, 0), adopted(17, 1), ins(17, 6, 1), adopted(19, 1), ins(19, 6, 2),
		tree(6, some(16, 17, 19), some(9), 0, 0))
	wants(t, "all of a document", page(), got(mutate.ReplaceAll(page(), 1, 0)),
		rem(2, 1, 0), rem(3, 1, 0), rem(4, 1, 0), tree(1, nil, some(2, 3, 4), 0, 0))
	wants(t, "all of a shadow root", page(), got(mutate.ReplaceAll(page(), 10, 23)),
		rem(11, 10, 0), ins(23, 10, 0), tree(10, some(23), some(11), 0, 0))
	wants(t, "all of a fragment", page(), got(mutate.ReplaceAll(page(), 13, 0)), rem(14, 13, 0), tree(13, nil, some(14), 0, 0))
}

// 9.3: the node stands within the parent: as its kid, within a kid, in the shadow tree of a kid. What comes is right.
func TestReplaceAllWithin(t *testing.T) {
	all := []api.Change{rem(5, 3, 0), rem(6, 3, 0), rem(7, 3, 0), rem(8, 3, 0)}
	wants(t, "a kid", page(), got(mutate.ReplaceAll(page(), 3, 7)),
		append(all[:4:4], ins(7, 3, 0), tree(3, some(7), some(5, 6, 7, 8), 0, 0))...)
	wants(t, "within a kid", page(), got(mutate.ReplaceAll(page(), 3, 9)),
		append(all[:4:4], rem(9, 6, 0), tree(6, nil, some(9), 0, 0), ins(9, 3, 0), tree(3, some(9), some(5, 6, 7, 8), 0, 0))...)
	wants(t, "in a kid's shadow tree", page(), got(mutate.ReplaceAll(page(), 3, 11)),
		append(all[:4:4], rem(11, 10, 0), tree(10, nil, some(11), 0, 0), ins(11, 3, 0), tree(3, some(11), some(5, 6, 7, 8), 0, 0))...)
	wants(t, "a document's comment", page(), got(mutate.ReplaceAll(page(), 1, 8)),
		rem(2, 1, 0), rem(3, 1, 0), rem(4, 1, 0), rem(8, 3, 3), tree(3, nil, some(8), 7, 0),
		ins(8, 1, 0), tree(1, some(8), some(2, 3, 4), 0, 0))
}

// 9.1 to 9.3: what may not be put where it is asked for.
func TestMayNot(t *testing.T) {
	f := page()
	for _, c := range []struct {
		what                string
		node, parent, child int
		why                 api.Errno
	}{
		{"into a text", 23, 5, 0, api.ErrHierarchy},
		{"into a doctype", 23, 2, 0, api.ErrHierarchy},
		{"into a comment", 30, 4, 0, api.ErrHierarchy},
		{"into itself", 3, 3, 0, api.ErrHierarchy},
		{"into what is within it", 3, 6, 9, api.ErrHierarchy},
		{"a host into its shadow tree", 6, 10, 11, api.ErrHierarchy},
		{"a fragment into what is within it", 15, 17, 18, api.ErrHierarchy},
		{"ahead of another one's kid", 23, 3, 9, api.ErrNotFound},
		{"ahead of the parent", 23, 3, 3, api.ErrNotFound},
		{"a document", 20, 3, 5, api.ErrHierarchy},
		{"a shadow root", 25, 3, 5, api.ErrHierarchy},
		{"a text into a document", 28, 1, 4, api.ErrHierarchy},
		{"CDATA into a document", 29, 1, 4, api.ErrHierarchy},
		{"a doctype into an element", 31, 3, 5, api.ErrHierarchy},
		{"a second element", 23, 1, 4, api.ErrHierarchy},
		{"a fragment with a text into a document", 15, 1, 4, api.ErrHierarchy},
		{"a doctype behind the element", 31, 1, 4, api.ErrHierarchy},
		{"an element ahead of the doctype", 23, 1, 2, api.ErrHierarchy},
	} {
		refuses(t, "Insert "+c.what, got(mutate.Insert(f, c.node, c.parent, c.child)), c.why)
		if c.child != 0 {
			refuses(t, "Replace "+c.what, got(mutate.Replace(f, c.node, c.parent, c.child)), c.why)
		}
		if c.child == 0 {
			refuses(t, "ReplaceAll "+c.what, got(mutate.ReplaceAll(f, c.parent, c.node)), c.why)
		}
	}
	for _, node := range []int{1, 3, 10, 15, 20, 21, 23, 28, 29, 31} {
		refuses(t, "ReplaceAll of a document", got(mutate.ReplaceAll(f, 1, node)), api.ErrHierarchy)
	}
	for h, n := range f.Nodes {
		if why := got(mutate.ReplaceAll(f, h+1, 0)).why; (why == api.OK) != hasKids(n) || why != api.OK && why != api.ErrHierarchy {
			t.Errorf("ReplaceAll(%d, 0): error %d", h+1, why)
		}
	}
}
