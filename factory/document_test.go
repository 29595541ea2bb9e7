package factory_test

import (
	"testing"

	"canopy/api"
	"canopy/factory"
	"canopy/forest"
	"canopy/sample"
)

func makes(h int, n api.Node) api.Change { return api.Change{Kind: api.ChangeMake, Node: h, Made: n} }

func inserts(h, parent, at int) api.Change {
	return api.Change{Kind: api.ChangeInsert, Node: h, Parent: parent, Index: at}
}

func tells(parent, h, prev int) api.Change {
	return api.Change{Kind: api.ChangeTree, Parent: parent, Added: []int{h}, Prev: prev}
}

// wantChanges sees that a call answers these changes, and the forest that they make of the one that there was (P12.7), which is right.
func wantChanges(t *testing.T, what string, f api.Forest, a answer, want ...api.Change) {
	t.Helper()
	if a.why != api.OK || a.h != len(f.Nodes)+1 || !sample.SameChanges(a.l, want) {
		t.Errorf("%s: %d, %d\n%+v, want\n%+v", what, a.h, a.why, a.l, want)
	}
	if g, _, why := forest.All(f, want); why != api.OK || !forest.Same(a.g, g) {
		t.Errorf("P12.7: %s: %+v, %d", what, a.g, why)
	}
}

// P12.3: all four documents, with a doctype that hangs nowhere: what is made is made ahead of what is appended, the doctype is appended ahead of the element.
func TestDocument(t *testing.T) {
	f := page()
	document := makes(13, api.Node{Kind: api.KindDocument, Doc: 13})
	element := makes(14, api.Node{Kind: api.KindElement, Name: api.Name{Space: "u", Prefix: "P", Local: "A"}, Doc: 13})
	adopts := api.Change{Kind: api.ChangeAdopt, Node: loose, Doc: 13}
	wantChanges(t, "nothing", f, got(factory.Document(f, "", "", 0)), document)
	wantChanges(t, "an element", f, got(factory.Document(f, "u", "P:A", 0)), document, element, inserts(14, 13, 0), tells(13, 14, 0))
	wantChanges(t, "a doctype", f, got(factory.Document(f, "", "", loose)), document, adopts, inserts(loose, 13, 0), tells(13, loose, 0))
	wantChanges(t, "both", f, got(factory.Document(f, "u", "P:A", loose)),
		document, element, adopts, inserts(loose, 13, 0), tells(13, loose, 0), inserts(14, 13, 1), tells(13, 14, loose))
	none := api.Forest{}
	wantChanges(t, "the first node of all", none, got(factory.Document(none, "", "a", 0)),
		makes(1, api.Node{Kind: api.KindDocument, Doc: 1}), makes(2, api.Node{Kind: api.KindElement, Name: local("a"), Doc: 1}), inserts(2, 1, 0), tells(1, 2, 0))
}

// P12.3: a doctype that stands in another document is taken from there, which is told.
func TestTakenDoctype(t *testing.T) {
	f := page()
	taken := []api.Change{
		{Kind: api.ChangeRemove, Node: doctype, Parent: 1, Index: 1},
		{Kind: api.ChangeTree, Parent: 1, Removed: []int{doctype}, Prev: 10, Next: 4},
		{Kind: api.ChangeAdopt, Node: doctype, Doc: 13},
		inserts(doctype, 13, 0), tells(13, doctype, 0),
	}
	document := makes(13, api.Node{Kind: api.KindDocument, Doc: 13})
	element := makes(14, api.Node{Kind: api.KindElement, Name: local("a"), Doc: 13})
	wantChanges(t, "a doctype", f, got(factory.Document(f, "", "", doctype)), append([]api.Change{document}, taken...)...)
	all := append([]api.Change{document, element}, taken...)
	a := got(factory.Document(f, "", "a", doctype))
	wantChanges(t, "both", f, a, append(all, inserts(14, 13, 1), tells(13, 14, doctype))...)
	if s, why := forest.Print(a.g, 1); why != api.OK || s != "#document\n  ?d\n  <a x>\n    #shadow\n      <slot>\n    #text 2\n  #comment 1\n" {
		t.Error("where it stood:", s, why)
	}
	if n := a.g.Nodes[doctype-1]; n.Public != "pub" || n.System != "sys" || n.Parent != 13 || n.Doc != 13 {
		t.Error("the doctype:", n)
	}
}

// P12.3: names.Extract's errors, but of no name at all; behind what is wrong with the doctype.
func TestDocumentErrors(t *testing.T) {
	f := page()
	for _, c := range []struct {
		space, qualified string
		why              api.Errno
	}{
		{"", "1", api.ErrCharacter}, {"", "a:b", api.ErrNamespace}, {"u", "xmlns", api.ErrNamespace}, {"", long(api.MaxName + 1), api.ErrLong}, {long(api.MaxName + 1), "a", api.ErrLong},
		{"u", " ", api.ErrCharacter}, {api.SpaceXMLNS, "a", api.ErrNamespace},
	} {
		for _, h := range []int{0, doctype, loose} {
			refuses(t, c.qualified, got(factory.Document(f, c.space, c.qualified, h)), c.why)
		}
		refuses(t, "no node", got(factory.Document(f, c.space, c.qualified, 13)), api.ErrRange)
		refuses(t, "no doctype", got(factory.Document(f, c.space, c.qualified, 1)), api.ErrType)
	}
	for _, space := range []string{"u", api.SpaceXMLNS, long(api.MaxName + 1)} {
		wantChanges(t, "no element", f, got(factory.Document(f, space, "", 0)), makes(13, api.Node{Kind: api.KindDocument, Doc: 13}))
	}
}

// htmlChanges are what HTML does to a forest of so many nodes; of no title: nil.
func htmlChanges(from int, title *api.Units) []api.Change {
	doc, at := from+1, from+1
	l := []api.Change{makes(doc, api.Node{Kind: api.KindDocument, Doc: doc, HTML: true})}
	put := func(parent, place, prev int, n api.Node) int {
		at++
		n.Doc = doc
		l = append(l, makes(at, n), inserts(at, parent, place), tells(parent, at, prev))
		return at
	}
	named := func(s string) api.Node {
		return api.Node{Kind: api.KindElement, Name: api.Name{Space: api.SpaceHTML, Local: s}}
	}
	first := put(doc, 0, 0, api.Node{Kind: api.KindDoctype, Name: local("html")})
	html := put(doc, 1, first, named("html"))
	head := put(html, 0, 0, named("head"))
	if title != nil {
		put(put(head, 0, 0, named("title")), 0, 0, api.Node{Kind: api.KindText, Data: *title})
	}
	put(html, 1, head, named("body"))
	return l
}

// P12.4, P12.9: HTML with a title, with an empty one, with none: each change by itself.
func TestHTML(t *testing.T) {
	for _, f := range []api.Forest{page(), forest.New(false), {}} {
		n := len(f.Nodes)
		for _, title := range []api.Units{of("T"), of("]]>"), {}, nil, {0xd800}, many(api.MaxData)} {
			wantChanges(t, "a title", f, got(factory.HTML(f, title, true)), htmlChanges(n, &title)...)
			a := got(factory.HTML(f, title, true))
			if text := a.g.Nodes[n+5]; len(a.g.Nodes) != n+7 || text.Kind != api.KindText || len(text.Data) != len(title) {
				t.Error("a title:", len(a.g.Nodes), text)
			}
			wantChanges(t, "no title", f, got(factory.HTML(f, title, false)), htmlChanges(n, nil)...)
		}
		refuses(t, "a long title", got(factory.HTML(f, many(api.MaxData+1), true)), api.ErrLong)
		wantChanges(t, "a long title that there is not", f, got(factory.HTML(f, many(api.MaxData+1), false)), htmlChanges(n, nil)...)
	}
	a := got(factory.HTML(page(), nil, true))
	if s, why := forest.Print(a.g, a.h); why != api.OK || s != "#document\n  !html\n  <html>\n    <head>\n      <title>\n        #text 0\n    <body>\n" {
		t.Error("an empty title:", s, why)
	}
	a = got(factory.HTML(page(), of("T"), false))
	if s, why := forest.Print(a.g, a.h); why != api.OK || s != "#document\n  !html\n  <html>\n    <head>\n    <body>\n" {
		t.Error("no title:", s, why)
	}
}
