package factory_test

import (
	"strings"
	"testing"

	"canopy/api"
	"canopy/factory"
	"canopy/forest"
	"canopy/names"
	"canopy/sample"
)

// answer is what a call answers.
type answer struct {
	g   api.Forest
	l   []api.Change
	h   int
	why api.Errno
}

func got(g api.Forest, l []api.Change, h int, why api.Errno) answer { return answer{g, l, h, why} }

// refuses sees that a call says why, and nothing else.
func refuses(t *testing.T, what string, a answer, why api.Errno) {
	t.Helper()
	if a.why != why || a.g.Nodes != nil || a.l != nil || a.h != 0 {
		t.Errorf("%s: error %d, want %d; %d, %v", what, a.why, why, a.h, a.l)
	}
}

// wantMade sees that a call makes one node, by one change, and leaves all others as they are (words, P12.6, P12.7).
func wantMade(t *testing.T, what string, f api.Forest, a answer, n api.Node) {
	t.Helper()
	h := len(f.Nodes) + 1
	want := sample.Copy(f)
	want.Nodes = append(want.Nodes, n)
	changes := []api.Change{{Kind: api.ChangeMake, Node: h, Made: n}}
	if a.why != api.OK || a.h != h || !forest.Same(a.g, want) || !sample.SameChanges(a.l, changes) {
		t.Errorf("%s: %+v, %d, %d; want %+v", what, a.l, a.h, a.why, n)
		return
	}
	if g, _, why := forest.All(f, a.l); why != api.OK || !forest.Same(g, a.g) {
		t.Errorf("P12.7: %s: error %d", what, why)
	}
	if why, at := forest.Check(a.g); why != api.OK {
		t.Errorf("%s: not right at %d", what, at)
	}
}

func local(s string) api.Name { return api.Name{Local: s} }

func of(s string) api.Units {
	var u api.Units
	for _, b := range []byte(s) {
		u = append(u, uint16(b))
	}
	return u
}

func many(n int) api.Units { return make(api.Units, n) }

func long(n int) string { return strings.Repeat("a", n) }

// The handles of the page.
const (
	inHTML  = 1
	inXML   = 2
	doctype = 3 // in the first document
	loose   = 8 // a doctype that hangs nowhere
)

// page has two documents, and each other kind of node.
func page() api.Forest {
	return api.Forest{Nodes: []api.Node{
		{Kind: api.KindDocument, Kids: []int{10, 3, 4, 9}, Doc: 1, HTML: true},
		{Kind: api.KindDocument, Doc: 2},
		{Kind: api.KindDoctype, Name: local("html"), Public: "pub", System: "sys", Parent: 1, Doc: 1},
		{Kind: api.KindElement, Name: local("a"), Attrs: []api.Attr{{Name: local("x"), Value: "y"}}, Parent: 1, Kids: []int{5}, Doc: 1, Shadow: 6},
		{Kind: api.KindText, Data: of("ab"), Parent: 4, Doc: 1},
		{Kind: api.KindShadow, Kids: []int{12}, Doc: 1, Host: 4, Mode: api.ShadowOpen},
		{Kind: api.KindFragment, Doc: 2},
		{Kind: api.KindDoctype, Name: local("b"), Doc: 2},
		{Kind: api.KindComment, Data: of("c"), Parent: 1, Doc: 1},
		{Kind: api.KindInstruction, Name: local("d"), Data: of("e"), Parent: 1, Doc: 1},
		{Kind: api.KindCData, Data: of("f"), Doc: 1},
		{Kind: api.KindElement, Name: local("slot"), Parent: 6, Doc: 1},
	}}
}

// Chapter 12, the example.
func TestExample(t *testing.T) {
	f := forest.New(true)
	wantMade(t, "DIV", f, got(factory.Element(f, 1, "DIV")), api.Node{Kind: api.KindElement, Name: api.Name{Space: api.SpaceHTML, Local: "div"}, Doc: 1})
	refuses(t, "1", got(factory.Element(f, 1, "1")), api.ErrCharacter)
	refuses(t, "CDATA in an HTML document", got(factory.CData(f, 1, nil)), api.ErrUnsupported)
	refuses(t, "?>", got(factory.Instruction(f, 1, "a", of("?>"))), api.ErrCharacter)
	g, l, h, why := factory.HTML(f, of("T"), true)
	if why != api.OK || h != 2 || len(g.Nodes) != 8 || len(l) != 7+6*2 {
		t.Error("HTML:", len(g.Nodes), len(l), h, why)
	}
	if s, why := forest.Print(g, h); why != api.OK || s != "#document\n  !html\n  <html>\n    <head>\n      <title>\n        #text 1\n    <body>\n" {
		t.Error("HTML:", s, why)
	}
}

// P12.1, P12.8: Element: in an HTML document with small letters and SpaceHTML, in another one as it is; a colon is a letter like others.
func TestElement(t *testing.T) {
	f := page()
	for name, small := range map[string]string{
		"div": "div", "DIV": "div", "dIv": "div", "a:B": "a:b", ":": ":", "X:y:Z": "x:y:z", "xmlns": "xmlns", "xml:a": "xml:a", "_A1-.": "_a1-.", "\u00c4Z": "\u00c4z", "\u212aA": "\u212aa",
		"aZ": "az", "aA": "aa", long(api.MaxName-1) + "B": long(api.MaxName-1) + "b", "MY-Box": "my-box",
	} {
		wantMade(t, name, f, got(factory.Element(f, inHTML, name)), api.Node{Kind: api.KindElement, Name: api.Name{Space: api.SpaceHTML, Local: small}, Doc: inHTML})
		wantMade(t, name, f, got(factory.Element(f, inXML, name)), api.Node{Kind: api.KindElement, Name: local(name), Doc: inXML})
	}
	for _, doc := range []int{inHTML, inXML} {
		for _, name := range []string{"", "1", "1a", "a b", " a", "a ", "-a", ".", "<", "a>", "\xff", "a\xff", "A\xc3", "a\x00", "\u00d7", "\u2028"} {
			refuses(t, name, got(factory.Element(f, doc, name)), api.ErrCharacter)
		}
		refuses(t, "a long name", got(factory.Element(f, doc, long(api.MaxName+1))), api.ErrLong)
		refuses(t, "a long text that is no name", got(factory.Element(f, doc, " "+long(api.MaxName))), api.ErrLong)
		refuses(t, "as long as can be, and no name", got(factory.Element(f, doc, " "+long(api.MaxName-1))), api.ErrCharacter)
	}
}

// P12.1, P12.8: ElementNS: what names.Extract tells, with its errors; whatever the document is, the case stays.
func TestElementNS(t *testing.T) {
	f := page()
	for _, doc := range []int{inHTML, inXML} {
		for _, c := range []struct {
			space, qualified string
			name             api.Name
			why              api.Errno
		}{
			{"", "a", local("a"), api.OK},
			{"", "DIV", local("DIV"), api.OK},
			{api.SpaceHTML, "DIV", api.Name{Space: api.SpaceHTML, Local: "DIV"}, api.OK},
			{api.SpaceSVG, "svg:Rect", api.Name{Space: api.SpaceSVG, Prefix: "svg", Local: "Rect"}, api.OK},
			{api.SpaceXML, "xml:a", api.Name{Space: api.SpaceXML, Prefix: "xml", Local: "a"}, api.OK},
			{api.SpaceXMLNS, "xmlns", api.Name{Space: api.SpaceXMLNS, Local: "xmlns"}, api.OK},
			{api.SpaceXMLNS, "xmlns:a", api.Name{Space: api.SpaceXMLNS, Prefix: "xmlns", Local: "a"}, api.OK},
			{long(api.MaxName), "a:" + long(api.MaxName-2), api.Name{Space: long(api.MaxName), Prefix: "a", Local: long(api.MaxName - 2)}, api.OK},
			{"", "a:b", api.Name{}, api.ErrNamespace},
			{"u", "xml:a", api.Name{}, api.ErrNamespace},
			{"u", "xmlns", api.Name{}, api.ErrNamespace},
			{"u", "xmlns:a", api.Name{}, api.ErrNamespace},
			{api.SpaceXMLNS, "a", api.Name{}, api.ErrNamespace},
			{api.SpaceXMLNS, "a:b", api.Name{}, api.ErrNamespace},
			{"u", "", api.Name{}, api.ErrCharacter},
			{"u", "a:b:c", api.Name{}, api.ErrCharacter},
			{"u", ":a", api.Name{}, api.ErrCharacter},
			{"u", "a:", api.Name{}, api.ErrCharacter},
			{"u", "a:1", api.Name{}, api.ErrCharacter},
			{"", "1:a", api.Name{}, api.ErrCharacter},
			{long(api.MaxName + 1), "a", api.Name{}, api.ErrLong},
			{"u", long(api.MaxName + 1), api.Name{}, api.ErrLong},
			{long(api.MaxName + 1), "1", api.Name{}, api.ErrLong},
		} {
			a := got(factory.ElementNS(f, doc, c.space, c.qualified))
			if c.why != api.OK {
				refuses(t, "ElementNS of "+c.qualified, a, c.why)
				continue
			}
			wantMade(t, "ElementNS of "+c.qualified, f, a, api.Node{Kind: api.KindElement, Name: c.name, Doc: doc})
			if !names.Right(c.name) {
				t.Error("P12.8: not right:", c.name)
			}
		}
	}
}

// P12.2: Text and Comment have any data, as long as can be.
func TestTextAndComment(t *testing.T) {
	f := page()
	for _, doc := range []int{inHTML, inXML} {
		for _, data := range []api.Units{nil, {}, {0}, of("ab"), of("]]>"), of("?>"), of("--><!--"), {0xd800}, {0xdc00, 0xd800}, {0xffff}, many(api.MaxData)} {
			wantMade(t, "Text", f, got(factory.Text(f, doc, data)), api.Node{Kind: api.KindText, Data: data, Doc: doc})
			wantMade(t, "Comment", f, got(factory.Comment(f, doc, data)), api.Node{Kind: api.KindComment, Data: data, Doc: doc})
		}
		refuses(t, "a long text", got(factory.Text(f, doc, many(api.MaxData+1))), api.ErrLong)
		refuses(t, "a long comment", got(factory.Comment(f, doc, many(api.MaxData+1))), api.ErrLong)
	}
}

// texts are data, by whether a mark of them ends a node: at the beginning, in the middle, at the end, again and again, in part.
func texts(mark string) map[string]bool {
	l := map[string]bool{
		mark: true, mark + "a": true, "a" + mark: true, "ab" + mark + "cd": true, mark + mark: true, mark[:1] + mark: true, mark[:1] + mark[:1] + mark + ">": true,
		"": false, "a": false, mark[:1]: false, mark[1:]: false, mark[:len(mark)-1]: false, mark[:len(mark)-1] + "a>": false, mark[:1] + " " + mark[1:]: false,
		"a" + mark[:len(mark)-1]: false, mark[1:] + mark[:len(mark)-1]: false, "&gt;": false, strings.ReplaceAll(mark, ">", "<"): false,
	}
	for _, turned := range []string{mark[1:] + mark[:1], mark[len(mark)-1:] + mark[:len(mark)-1]} {
		l[turned] = false
	}
	return l
}

// P12.2: CData: not in an HTML document, not too long, without ]]>, in this order.
func TestCData(t *testing.T) {
	f := page()
	for text, ends := range texts("]]>") {
		if ends {
			refuses(t, text, got(factory.CData(f, inXML, of(text))), api.ErrCharacter)
		} else {
			wantMade(t, text, f, got(factory.CData(f, inXML, of(text))), api.Node{Kind: api.KindCData, Data: of(text), Doc: inXML})
		}
		refuses(t, text+" in HTML", got(factory.CData(f, inHTML, of(text))), api.ErrUnsupported)
	}
	for _, data := range []api.Units{of("?>"), {']' + 256, ']', '>'}, {']', ']', '>' + 256}, many(api.MaxData)} {
		wantMade(t, "CDATA", f, got(factory.CData(f, inXML, data)), api.Node{Kind: api.KindCData, Data: data, Doc: inXML})
	}
	over := append(many(api.MaxData-2), of("]]>")...)
	refuses(t, "too long in HTML", got(factory.CData(f, inHTML, over)), api.ErrUnsupported)
	refuses(t, "too long, with an end", got(factory.CData(f, inXML, over)), api.ErrLong)
	refuses(t, "as long as can be, with an end", got(factory.CData(f, inXML, over[1:])), api.ErrCharacter)
}

// P12.2: Instruction: neither too long, then a name as its target, and no ?> in it.
func TestInstruction(t *testing.T) {
	f := page()
	for _, doc := range []int{inHTML, inXML} {
		for text, ends := range texts("?>") {
			if ends {
				refuses(t, text, got(factory.Instruction(f, doc, "a", of(text))), api.ErrCharacter)
			} else {
				wantMade(t, text, f, got(factory.Instruction(f, doc, "a", of(text))), api.Node{Kind: api.KindInstruction, Name: local("a"), Data: of(text), Doc: doc})
			}
		}
		for _, target := range []string{"A", "xml", "a:b", ":", "x-y", long(api.MaxName)} {
			wantMade(t, target, f, got(factory.Instruction(f, doc, target, of("]]>"))), api.Node{Kind: api.KindInstruction, Name: local(target), Data: of("]]>"), Doc: doc})
		}
		for _, target := range []string{"", "1", "a b", "?", "\xff"} {
			refuses(t, target, got(factory.Instruction(f, doc, target, nil)), api.ErrCharacter)
			refuses(t, target+", too long", got(factory.Instruction(f, doc, target, many(api.MaxData+1))), api.ErrLong)
		}
		wantMade(t, "as long as can be", f, got(factory.Instruction(f, doc, "a", many(api.MaxData))), api.Node{Kind: api.KindInstruction, Name: local("a"), Data: many(api.MaxData), Doc: doc})
		refuses(t, "a long target", got(factory.Instruction(f, doc, long(api.MaxName+1), nil)), api.ErrLong)
		refuses(t, "a long target, and an end", got(factory.Instruction(f, doc, " "+long(api.MaxName), of("?>"))), api.ErrLong)
		refuses(t, "long data", got(factory.Instruction(f, doc, "a", many(api.MaxData+1))), api.ErrLong)
	}
}

// P12.2: Fragment, and Doctype: names.Validate's errors, then what is too long.
func TestFragmentAndDoctype(t *testing.T) {
	f := page()
	for _, doc := range []int{inHTML, inXML} {
		wantMade(t, "Fragment", f, got(factory.Fragment(f, doc)), api.Node{Kind: api.KindFragment, Doc: doc})
		for _, c := range []struct{ qualified, public, system string }{
			{"html", "", ""}, {"HTML", "p", "s"}, {"a:b", "", "s"}, {"xmlns", "<", "\xff"}, {long(api.MaxName), long(api.MaxName), long(api.MaxName)}, {"a", "P", ""},
		} {
			wantMade(t, c.qualified, f, got(factory.Doctype(f, doc, c.qualified, c.public, c.system)),
				api.Node{Kind: api.KindDoctype, Name: local(c.qualified), Public: c.public, System: c.system, Doc: doc})
		}
		over := long(api.MaxName + 1)
		for _, name := range []string{"", "1", "a:b:c", ":a", "a:", "a b"} {
			refuses(t, name, got(factory.Doctype(f, doc, name, "", "")), api.ErrCharacter)
			refuses(t, name+", and too long", got(factory.Doctype(f, doc, name, over, over)), api.ErrCharacter)
		}
		refuses(t, "a long name", got(factory.Doctype(f, doc, over, "", "")), api.ErrLong)
		refuses(t, "long and no name", got(factory.Doctype(f, doc, "1"+over, "", "")), api.ErrLong)
		refuses(t, "a long public id", got(factory.Doctype(f, doc, "a", over, "")), api.ErrLong)
		refuses(t, "a long system id", got(factory.Doctype(f, doc, "a", "", over)), api.ErrLong)
	}
}
