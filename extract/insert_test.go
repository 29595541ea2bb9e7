package extract_test

import (
	"testing"

	"canopy/api"
	"canopy/sample"
)

func split(node, other, offset int) api.Change {
	return api.Change{Kind: api.ChangeSplit, Node: node, Other: other, Offset: offset}
}

// The nodes of the stand, p's and those that hang nowhere: a fragment has an element and a text, another one nothing.
const (
	p         = 2
	abc       = 3
	b         = 4
	inB       = 5
	comment   = 6
	target    = 7
	cdata     = 8
	free      = 9
	loneText  = 10
	full      = 11
	fullKid   = 12
	fullText  = 13
	blank     = 14
	loneCData = 15
)

func stand() api.Forest {
	f := with(sample.Tree(`p(#"abc" b(#"de") -"fg" ?"hi" ="jk")`), element("n"), text("lone"), fragment(), element("k"), text("kt"), fragment(), api.Node{Kind: api.KindCData, Data: of("lo")})
	f.Nodes[full-1].Kids = some(fullKid, fullText)
	f.Nodes[fullKid-1].Parent, f.Nodes[fullText-1].Parent = full, full
	return f
}

// 17.3: a node comes at the start of a range: in texts, between kids, at the end.
func TestInsert(t *testing.T) {
	for _, x := range []struct {
		what string
		r    api.Range
		node int
		tree string
		left api.Range
	}{
		{"in a text", point(abc, 1), free, `p(#"a" n #"bc" b(#"de") -"fg" ?"hi" ="jk")`, from(at(abc, 1), at(p, 2))},
		{"at a text's beginning", point(abc, 0), free, `p(# n #"abc" b(#"de") -"fg" ?"hi" ="jk")`, from(at(abc, 0), at(p, 2))},
		{"at a text's end", point(abc, 3), free, `p(#"abc" n # b(#"de") -"fg" ?"hi" ="jk")`, from(at(abc, 3), at(p, 2))},
		{"in CDATA, whose rest is a text", point(cdata, 1), loneText, `p(#"abc" b(#"de") -"fg" ?"hi" ="j" #"lone" #"k")`, from(at(cdata, 1), at(p, 6))},
		{"from a text on to its end", from(at(abc, 1), at(abc, 3)), free, `p(#"a" n #"bc" b(#"de") -"fg" ?"hi" ="jk")`, from(at(abc, 1), at(16, 2))},
		{"from a text on to the point behind it", from(at(abc, 1), at(p, 1)), free, `p(#"a" n #"bc" b(#"de") -"fg" ?"hi" ="jk")`, from(at(abc, 1), at(p, 3))},
		{"ahead of all kids", point(p, 0), free, `p(n #"abc" b(#"de") -"fg" ?"hi" ="jk")`, from(at(p, 0), at(p, 1))},
		{"between kids", point(p, 2), free, `p(#"abc" b(#"de") n -"fg" ?"hi" ="jk")`, from(at(p, 2), at(p, 3))},
		{"behind all kids", point(p, 5), free, `p(#"abc" b(#"de") -"fg" ?"hi" ="jk" n)`, from(at(p, 5), at(p, 6))},
		{"between kids, on to another one", from(at(p, 1), at(inB, 1)), free, `p(#"abc" n b(#"de") -"fg" ?"hi" ="jk")`, from(at(p, 1), at(inB, 1))},
		{"between kids, on to the end", from(at(p, 1), at(p, 5)), free, `p(#"abc" n b(#"de") -"fg" ?"hi" ="jk")`, from(at(p, 1), at(p, 6))},
		{"the next itself, at a point", point(p, 1), b, `p(#"abc" b(#"de") -"fg" ?"hi" ="jk")`, from(at(p, 1), at(p, 2))},
		{"the next itself, and nothing else in the range", from(at(p, 1), at(p, 2)), b, `p(#"abc" b(#"de") -"fg" ?"hi" ="jk")`, point(p, 1)},
		{"the next itself, the end in it", from(at(p, 1), at(inB, 2)), b, `p(#"abc" b(#"de") -"fg" ?"hi" ="jk")`, point(p, 1)},
		{"the next itself, the last kid", point(p, 4), cdata, `p(#"abc" b(#"de") -"fg" ?"hi" ="jk")`, from(at(p, 4), at(p, 5))},
		{"a kid from behind", point(p, 0), b, `p(b(#"de") #"abc" -"fg" ?"hi" ="jk")`, from(at(p, 0), at(p, 1))},
		{"a kid from ahead", point(p, 3), b, `p(#"abc" -"fg" b(#"de") ?"hi" ="jk")`, from(at(p, 2), at(p, 3))},
		{"the kid behind the text", point(abc, 2), b, `p(#"ab" b(#"de") #"c" -"fg" ?"hi" ="jk")`, from(at(abc, 2), at(p, 2))},
		{"the end in a kid that comes", from(at(abc, 2), at(inB, 1)), b, `p(#"ab" b(#"de") #"c" -"fg" ?"hi" ="jk")`, from(at(abc, 2), at(p, 3))},
		{"a fragment, in a text", point(abc, 2), full, `p(#"ab" k #"kt" #"c" b(#"de") -"fg" ?"hi" ="jk")`, from(at(abc, 2), at(p, 3))},
		{"a fragment, between kids", from(at(p, 1), at(p, 2)), full, `p(#"abc" k #"kt" b(#"de") -"fg" ?"hi" ="jk")`, from(at(p, 1), at(p, 4))},
		{"a fragment, behind all kids", point(p, 5), full, `p(#"abc" b(#"de") -"fg" ?"hi" ="jk" k #"kt")`, from(at(p, 5), at(p, 7))},
		{"nothing, in a text", point(abc, 2), blank, `p(#"ab" #"c" b(#"de") -"fg" ?"hi" ="jk")`, from(at(abc, 2), at(p, 1))},
		{"nothing, between kids", point(p, 2), blank, `p(#"abc" b(#"de") -"fg" ?"hi" ="jk")`, point(p, 2)},
		{"a kid of a fragment", point(b, 0), fullText, `p(#"abc" b(#"kt" #"de") -"fg" ?"hi" ="jk")`, from(at(b, 0), at(b, 1))},
	} {
		a := inserted(stand(), x.r, x.node)
		if a.why != api.OK || sample.Text(a.f, 1) != x.tree || a.left != x.left {
			t.Errorf("%s: %s, %v, error %d; want %s, %v", x.what, sample.Text(a.f, 1), a.left, a.why, x.tree, x.left)
		}
	}
}

// 17.3: the changes, one by one: the text is split, the node taken away, told, and put.
func TestInsertChanges(t *testing.T) {
	f := stand()
	wants(t, "in a text", f, inserted(f, point(abc, 1), free),
		made(16, text("bc")), ins(16, p, 1), tree(p, some(16), nil, abc, b), split(abc, 16, 1), cut(abc, 1, 2),
		ins(free, p, 1), tree(p, some(free), nil, abc, 16))
	wants(t, "a kid", f, inserted(f, point(p, 3), b),
		rem(b, p, 1), tree(p, nil, some(b), abc, comment), ins(b, p, 2), tree(p, some(b), nil, comment, target))
	wants(t, "the next itself", f, inserted(f, from(at(p, 1), at(p, 2)), b),
		rem(b, p, 1), tree(p, nil, some(b), abc, comment), ins(b, p, 1), tree(p, some(b), nil, abc, comment))
	wants(t, "a fragment", f, inserted(f, point(p, 1), full),
		rem(fullKid, full, 0), rem(fullText, full, 0), tree(full, nil, some(fullKid, fullText), 0, 0),
		ins(fullKid, p, 1), ins(fullText, p, 2), tree(p, some(fullKid, fullText), nil, abc, b))
	wants(t, "nothing", f, inserted(f, point(p, 1), blank))
}

// 17.3: a node of another document is adopted.
func TestInsertAdopts(t *testing.T) {
	f := stand()
	f.Nodes = append(f.Nodes, api.Node{Kind: api.KindDocument, Doc: 16})
	f.Nodes[free-1].Doc = 16
	wants(t, "of another document", f, inserted(f, point(p, 0), free),
		api.Change{Kind: api.ChangeAdopt, Node: free, Doc: 1}, ins(free, p, 0), tree(p, some(free), nil, 0, abc))
}

// 17.3: where nothing can be put, and what can be put nowhere.
func TestInsertRefused(t *testing.T) {
	f := stand()
	f.Nodes = append(f.Nodes,
		api.Node{Kind: api.KindDoctype, Name: api.Name{Local: "d"}, Doc: 1},
		api.Node{Kind: api.KindShadow, Host: free, Doc: 1, Mode: api.ShadowOpen},
		api.Node{Kind: api.KindDocument, Doc: 18, Kids: some(19)},
		api.Node{Kind: api.KindDoctype, Name: api.Name{Local: "e"}, Parent: 18, Doc: 18})
	f.Nodes[free-1].Shadow = 17
	for _, x := range []struct {
		what string
		r    api.Range
		node int
	}{
		{"at a comment", point(comment, 1), loneText}, {"at an instruction", point(target, 0), loneText}, {"at a comment, on to a text", from(at(comment, 1), at(cdata, 1)), loneText},
		{"at a text without a parent", point(loneText, 1), b}, {"at CDATA without a parent", point(loneCData, 1), b},
		{"of Start's node, a text", point(abc, 1), abc}, {"of Start's node, an element", point(b, 0), b}, {"of Start's node, a fragment", point(full, 0), full}, {"of Start's node, a document", point(1, 0), 1},
		{"of what has Start's node", point(inB, 1), b}, {"of what has Start's node, above it", point(inB, 1), p}, {"of the host, in its shadow tree", point(17, 0), free},
		{"of a document", point(b, 0), 1}, {"of a shadow root", point(b, 0), 17}, {"of a doctype", point(b, 0), 16}, {"of a doctype, in a text", point(abc, 0), 16},
		{"of a second element", point(1, 1), free}, {"of a text, in a document", point(1, 0), loneText}, {"of a doctype behind an element", point(1, 1), 16}, {"in a doctype", point(19, 0), loneText},
	} {
		refuses(t, x.what, inserted(f, x.r, x.node), api.ErrHierarchy)
	}
	if a := inserted(f, point(1, 0), 16); a.why != api.OK || a.left != from(at(1, 0), at(1, 1)) {
		t.Error("a doctype ahead of an element:", a.left, a.why)
	}
}

// 17.4: what lies in a range is within the node, which comes in its place.
func TestSurround(t *testing.T) {
	for _, x := range []struct {
		what string
		r    api.Range
		node int
		tree string
		left api.Bound
	}{
		{"in a text", from(at(abc, 1), at(abc, 2)), free, `p(#"a" n(#"b") #"c" b(#"de") -"fg" ?"hi" ="jk")`, at(p, 1)},
		{"a point in a text", point(abc, 1), free, `p(#"a" n #"bc" b(#"de") -"fg" ?"hi" ="jk")`, at(p, 1)},
		{"a point between kids", point(p, 1), free, `p(#"abc" n b(#"de") -"fg" ?"hi" ="jk")`, at(p, 1)},
		{"from a text on to another one", from(at(abc, 1), at(cdata, 1)), free, `p(#"a" n(#"bc" b(#"de") -"fg" ?"hi" ="j") ="k")`, at(p, 1)},
		{"wholes", from(at(p, 1), at(p, 3)), free, `p(#"abc" n(b(#"de") -"fg") ?"hi" ="jk")`, at(p, 1)},
		{"from a text on to its parent", from(at(abc, 3), at(p, 2)), free, `p(#"abc" n(# b(#"de")) -"fg" ?"hi" ="jk")`, at(p, 1)},
		{"all of a document", from(at(1, 0), at(1, 1)), free, `n(p(#"abc" b(#"de") -"fg" ?"hi" ="jk"))`, at(1, 0)},
		{"with a kid of a fragment", from(at(p, 3), at(p, 4)), fullKid, `p(#"abc" b(#"de") -"fg" k(?"hi") ="jk")`, at(p, 3)},
		{"with a node that has kids", from(at(abc, 0), at(abc, 1)), b, `p(# b(#"a") #"bc" -"fg" ?"hi" ="jk")`, at(p, 1)},
		{"with a node that stands in the range", from(at(p, 0), at(p, 3)), b, `p(b(#"abc" -"fg") ?"hi" ="jk")`, at(p, 0)},
		{"with the only node in the range", from(at(p, 1), at(p, 2)), b, `p(#"abc" b -"fg" ?"hi" ="jk")`, at(p, 1)},
	} {
		a := surrounded(stand(), x.r, x.node)
		want := from(x.left, at(x.left.Node, x.left.Offset+1))
		if a.why != api.OK || sample.Text(a.f, 1) != x.tree || a.left != want {
			t.Errorf("%s: %s, %v, error %d; want %s, %v", x.what, sample.Text(a.f, 1), a.left, a.why, x.tree, want)
		}
	}
}

// 17.4: the changes, one by one.
func TestSurroundChanges(t *testing.T) {
	f := sample.Tree(`p(#"abc" b(c))`) // p 2, "abc" 3, b 4, c 5
	wants(t, "with a node that has kids", f, surrounded(f, from(at(3, 1), at(3, 2)), 4),
		made(6, fragment()), made(7, text("b")), ins(7, 6, 0), tree(6, some(7), nil, 0, 0), cut(3, 1, 1),
		rem(5, 4, 0), tree(4, nil, some(5), 0, 0),
		made(8, text("c")), ins(8, 2, 1), tree(2, some(8), nil, 3, 4), split(3, 8, 1), cut(3, 1, 1),
		rem(4, 2, 2), tree(2, nil, some(4), 8, 0), ins(4, 2, 1), tree(2, some(4), nil, 3, 8),
		rem(7, 6, 0), tree(6, nil, some(7), 0, 0), ins(7, 4, 0), tree(4, some(7), nil, 0, 0))
}

// 17.4: a node that is no text and partly contained, then a node that can't surround, then what taking out, inserting and appending refuse.
func TestSurroundRefused(t *testing.T) {
	f := stand()
	f.Nodes = append(f.Nodes,
		api.Node{Kind: api.KindDoctype, Name: api.Name{Local: "d"}, Doc: 1},
		api.Node{Kind: api.KindShadow, Host: free, Doc: 1, Mode: api.ShadowOpen})
	f.Nodes[free-1].Shadow = 17
	fine := from(at(abc, 1), at(abc, 2))
	for _, x := range []struct {
		what string
		r    api.Range
		node int
		why  api.Errno
	}{
		{"from within an element", from(at(b, 0), at(p, 3)), free, api.ErrState},
		{"from a text within an element", from(at(inB, 1), at(cdata, 1)), free, api.ErrState},
		{"on to a text within an element", from(at(abc, 1), at(inB, 1)), free, api.ErrState},
		{"from a comment", from(at(comment, 1), at(p, 5)), free, api.ErrState},
		{"on to an instruction", from(at(p, 0), at(target, 1)), free, api.ErrState},
		{"on to a kid, with a document", from(at(1, 0), at(p, 1)), 1, api.ErrState},
		{"on to a kid, with a fragment", from(at(1, 0), at(p, 1)), full, api.ErrState},
		{"with a document", fine, 1, api.ErrNodeType},
		{"with a doctype", fine, 16, api.ErrNodeType},
		{"with a fragment", fine, full, api.ErrNodeType},
		{"with an empty fragment", point(abc, 1), blank, api.ErrNodeType},
		{"with a shadow root", fine, 17, api.ErrNodeType},
		{"with what has the range in it", fine, p, api.ErrHierarchy},
		{"with the node whose kids these are", from(at(p, 0), at(p, 5)), p, api.ErrHierarchy},
		{"with the text itself", fine, abc, api.ErrHierarchy},
		{"with a text", fine, loneText, api.ErrHierarchy},
		{"with a text, at a point", point(p, 0), loneText, api.ErrHierarchy},
		{"with a comment", from(at(p, 0), at(p, 1)), comment, api.ErrHierarchy},
		{"in a comment", from(at(comment, 0), at(comment, 1)), free, api.ErrHierarchy},
		{"in a text without a parent", from(at(loneText, 0), at(loneText, 2)), free, api.ErrHierarchy},
		{"a second element in a document", point(1, 0), free, api.ErrHierarchy},
		{"a text, and a second element", from(at(1, 1), at(1, 1)), fullKid, api.ErrHierarchy},
	} {
		refuses(t, x.what, surrounded(f, x.r, x.node), x.why)
	}
}
