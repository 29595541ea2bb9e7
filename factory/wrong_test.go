package factory_test

import (
	"maps"
	"math"
	"slices"
	"strings"
	"testing"

	"canopy/api"
	"canopy/factory"
	"canopy/forest"
	"canopy/names"
	"canopy/sample"
)

// given is what calls are handed beside a forest and a document.
type given struct {
	s, space, more string
	data           api.Units
	h              int
	has            bool
}

type call func(f api.Forest, doc int, x given) answer

// calls are those that are handed a document: each makes one node.
func calls() map[string]call {
	return map[string]call{
		"Element":   func(f api.Forest, doc int, x given) answer { return got(factory.Element(f, doc, x.s)) },
		"ElementNS": func(f api.Forest, doc int, x given) answer { return got(factory.ElementNS(f, doc, x.space, x.s)) },
		"Text":      func(f api.Forest, doc int, x given) answer { return got(factory.Text(f, doc, x.data)) },
		"Comment":   func(f api.Forest, doc int, x given) answer { return got(factory.Comment(f, doc, x.data)) },
		"CData":     func(f api.Forest, doc int, x given) answer { return got(factory.CData(f, doc, x.data)) },
		"Instruction": func(f api.Forest, doc int, x given) answer {
			return got(factory.Instruction(f, doc, x.s, x.data))
		},
		"Fragment": func(f api.Forest, doc int, x given) answer { return got(factory.Fragment(f, doc)) },
		"Doctype": func(f api.Forest, doc int, x given) answer {
			return got(factory.Doctype(f, doc, x.s, x.more, x.more))
		},
	}
}

// documents are those that are handed none.
func documents() map[string]call {
	return map[string]call{
		"Document": func(f api.Forest, doc int, x given) answer { return got(factory.Document(f, x.space, x.s, x.h)) },
		"HTML":     func(f api.Forest, doc int, x given) answer { return got(factory.HTML(f, x.data, x.has)) },
	}
}

// good is what all calls take; the others are what most of them refuse.
func good() given { return given{s: "a", space: "u", data: of("d"), h: loose, has: true} }

func bads() []given {
	return []given{
		{},
		{s: "1", data: of("]]>?>"), h: 1, has: true},
		{s: long(api.MaxName + 1), space: long(api.MaxName + 1), more: long(api.MaxName + 1), data: many(api.MaxData + 1), h: -1, has: true},
		{s: "a:b", data: many(api.MaxData + 1), h: 99, has: true},
	}
}

// stuffed is the page with so many nodes, those behind it being texts that hang nowhere.
func stuffed(n int) api.Forest {
	f := page()
	for len(f.Nodes) < n {
		f.Nodes = append(f.Nodes, api.Node{Kind: api.KindText, Doc: 1})
	}
	return f
}

// Words: a forest that is not right is ErrForest, ahead of all else.
func TestWrongForest(t *testing.T) {
	var wrongs []api.Forest
	for _, turn := range []func(f *api.Forest){
		func(f *api.Forest) { f.Nodes[4].Doc = 0 },
		func(f *api.Forest) { f.Nodes[0].Kids[1] = 99 },
		func(f *api.Forest) { f.Nodes[3].Parent = 12 },
		func(f *api.Forest) { f.Nodes[7].Kind = 2 },
		func(f *api.Forest) { f.Nodes[1].Data = of("x") },
		func(f *api.Forest) { *f = stuffed(api.MaxNodes + 1) },
	} {
		f := page()
		turn(&f)
		wrongs = append(wrongs, f)
	}
	for _, f := range wrongs {
		for _, x := range append(bads(), good()) {
			for name, do := range calls() {
				for _, doc := range []int{inHTML, inXML, 3, 0, -1, 99999} {
					refuses(t, name, do(f, doc, x), api.ErrForest)
				}
			}
			for name, do := range documents() {
				refuses(t, name, do(f, 0, x), api.ErrForest)
			}
		}
	}
}

// Words: a document that is no node is ErrRange, one that is of another kind ErrType, ahead of all that is wrong besides.
func TestWrongDoc(t *testing.T) {
	for name, do := range calls() {
		for _, x := range append(bads(), good()) {
			for _, doc := range []int{0, -1, 13, math.MaxInt, math.MinInt} {
				refuses(t, name, do(page(), doc, x), api.ErrRange)
				refuses(t, name+" in nothing", do(api.Forest{}, doc, x), api.ErrRange)
			}
			for doc := 3; doc <= 12; doc++ {
				refuses(t, name, do(page(), doc, x), api.ErrType)
				refuses(t, name+", and no room", do(stuffed(api.MaxNodes), doc, x), api.ErrType)
			}
		}
		if a := do(page(), inXML, good()); a.why != api.OK {
			t.Errorf("%s in a right forest: %d", name, a.why)
		}
	}
	for _, qualified := range []string{"", "a"} {
		for _, h := range []int{-1, 13, math.MaxInt, math.MinInt} {
			refuses(t, "a doctype that is no node", got(factory.Document(page(), "", qualified, h)), api.ErrRange)
		}
		for i, n := range page().Nodes {
			if n.Kind != api.KindDoctype {
				refuses(t, "a doctype of another kind", got(factory.Document(page(), "", qualified, i+1)), api.ErrType)
				refuses(t, "a doctype of another kind, and no room", got(factory.Document(stuffed(api.MaxNodes), "", qualified, i+1)), api.ErrType)
			}
		}
	}
	refuses(t, "a doctype of nothing", got(factory.Document(api.Forest{}, "", "", 1)), api.ErrRange)
}

// Words: the last node has room, one more is ErrMany, behind all other errors.
func TestMany(t *testing.T) {
	full, last := stuffed(api.MaxNodes), stuffed(api.MaxNodes-1)
	for name, do := range calls() {
		if a := do(last, inXML, good()); a.why != api.OK || a.h != api.MaxNodes || len(a.g.Nodes) != api.MaxNodes {
			t.Errorf("%s: the last node: %d, %d", name, a.h, a.why)
		}
		refuses(t, name+": one more", do(full, inXML, good()), api.ErrMany)
		for _, x := range bads() {
			why := do(page(), inXML, x).why
			if why == api.OK {
				why = api.ErrMany
			}
			refuses(t, name+": wrong, and no room", do(full, inXML, x), why)
		}
	}
	refuses(t, "CDATA in HTML, and no room", got(factory.CData(full, inHTML, nil)), api.ErrUnsupported)
}

// P12.3, P12.4: a document has room with all that belongs to it, or it is ErrMany: wherever its last node has none.
func TestManyInDocuments(t *testing.T) {
	for _, c := range []struct {
		what  string
		nodes int
		do    func(f api.Forest) answer
	}{
		{"a document alone", 1, func(f api.Forest) answer { return got(factory.Document(f, "", "", 0)) }},
		{"with a doctype", 1, func(f api.Forest) answer { return got(factory.Document(f, "", "", doctype)) }},
		{"with an element", 2, func(f api.Forest) answer { return got(factory.Document(f, "u", "a", 0)) }},
		{"with both", 2, func(f api.Forest) answer { return got(factory.Document(f, "u", "a", loose)) }},
		{"HTML", 5, func(f api.Forest) answer { return got(factory.HTML(f, of("T"), false)) }},
		{"HTML with a title", 7, func(f api.Forest) answer { return got(factory.HTML(f, nil, true)) }},
	} {
		last := stuffed(api.MaxNodes - c.nodes)
		if a := c.do(last); a.why != api.OK || len(a.g.Nodes) != api.MaxNodes || a.h != len(last.Nodes)+1 {
			t.Errorf("%s: the last nodes: %d, %d", c.what, len(a.g.Nodes), a.why)
		}
		for nodes := range c.nodes {
			refuses(t, c.what+", with less room", c.do(stuffed(api.MaxNodes-nodes)), api.ErrMany)
		}
	}
	full := stuffed(api.MaxNodes)
	refuses(t, "a wrong name, and no room", got(factory.Document(full, "", "1", 0)), api.ErrCharacter)
	refuses(t, "a wrong namespace, and no room", got(factory.Document(full, "", "a:b", loose)), api.ErrNamespace)
	refuses(t, "a doctype that is no node, and no room", got(factory.Document(full, "", "", -1)), api.ErrRange)
	refuses(t, "a long title, and no room", got(factory.HTML(full, many(api.MaxData+1), true)), api.ErrLong)
}

// P12.5: answers are new memory; what is handed in is neither changed nor kept.
func TestNewMemory(t *testing.T) {
	all := calls()
	for name, do := range documents() {
		all[name] = do
	}
	for name, do := range all {
		for _, h := range []int{0, doctype, loose} {
			x := good()
			x.h = h
			if s := sample.Sharing(page(), func(f api.Forest) (api.Forest, []api.Change) {
				a := do(f, inXML, x)
				return a.g, a.l
			}); s != "" {
				t.Errorf("%s: %s", name, s)
			}
			x.data = make(api.Units, 2, 10)
			a := do(page(), inXML, x)
			was, changesWere := sample.Copy(a.g), sample.CopyChanges(a.l)
			sample.Fill(x.data, 5)
			if !forest.Same(a.g, was) || !sample.SameChanges(a.l, changesWere) {
				t.Errorf("%s: the answer changes with the data that were handed in", name)
			}
			a = do(page(), inXML, x)
			sample.Spoil(a.g)
			sample.SpoilChanges(a.l)
			for _, unit := range x.data[:cap(x.data)] {
				if unit != 5 {
					t.Errorf("%s: the data that were handed in change with the answer", name)
				}
			}
		}
	}
}

// wantFollows sees what follows of an answer that is no error (P12.6 to P12.9).
func wantFollows(t *testing.T, name string, f api.Forest, doc int, x given, a answer) {
	t.Helper()
	if why, at := forest.Check(a.g); why != api.OK {
		t.Errorf("%s: not right at %d", name, at)
	}
	if g, _, why := forest.All(f, a.l); why != api.OK || !forest.Same(g, a.g) {
		t.Errorf("P12.7: %s: %d", name, why)
	}
	n := a.g.Nodes[a.h-1]
	whole := name == "Document" || name == "HTML"
	if whole {
		doc = a.h
	}
	if n.Parent != 0 || n.Doc != doc || whole != (n.Kind == api.KindDocument) || n.HTML != (name == "HTML") {
		t.Errorf("P12.6: %s: %+v", name, n)
	}
	great := strings.ContainsAny(n.Name.Local, "ABCDEFGHIJKLMNOPQRSTUVWXYZ")
	if name == "ElementNS" && !names.Right(n.Name) || name == "Element" && (n.Name.Prefix != "" || a.g.Nodes[doc-1].HTML && great) {
		t.Errorf("P12.8: %s: %+v", name, n.Name)
	}
	for i, was := range f.Nodes {
		taken := name == "Document" && (i+1 == x.h || x.h != 0 && f.Nodes[x.h-1].Parent == i+1)
		if !taken && !forest.Same(api.Forest{Nodes: []api.Node{was}}, api.Forest{Nodes: []api.Node{a.g.Nodes[i]}}) {
			t.Errorf("P12.6: %s turns %d", name, i+1)
		}
	}
	if name == "Document" {
		wantKids(t, a.g, n.Kids, x)
	}
}

// wantKids sees that a document has the doctype and the element that were asked for, and nothing else (P12.9).
func wantKids(t *testing.T, g api.Forest, kids []int, x given) {
	t.Helper()
	if x.h != 0 {
		if len(kids) == 0 || kids[0] != x.h {
			t.Error("P12.9: no doctype:", kids)
			return
		}
		kids = kids[1:]
	}
	if x.s != "" {
		if len(kids) == 0 || names.Qualified(g.Nodes[kids[0]-1].Name) != x.s || g.Nodes[kids[0]-1].Name.Space != x.space || len(g.Nodes[kids[0]-1].Kids) != 0 {
			t.Error("P12.9: no element:", kids)
			return
		}
		kids = kids[1:]
	}
	if len(kids) != 0 {
		t.Error("P12.9: something else:", kids)
	}
}

// P1, P2, P12.6 to P12.9: whatever is given, in forests that are grown: an answer of which all follows, or an error alone; what is handed in stays.
func TestAnything(t *testing.T) {
	all, done, taken := calls(), 0, 0
	for name, do := range documents() {
		all[name] = do
	}
	d := sample.NewDice(12)
	sorted := slices.Sorted(maps.Keys(all)) // so that the dice fall the same way each time
	for range 300 {
		f := sample.Grow(d, d.Below(25))
		was := sample.Copy(f)
		for _, name := range sorted {
			do := all[name]
			text := []string{"", "a", "A", "p:a", "xml", "xmlns", "xml:a", "1", "a:b:c", "\xff"}
			x := given{s: text[d.Below(len(text))], space: []string{"", "u", api.SpaceHTML, api.SpaceXML, api.SpaceXMLNS}[d.Below(5)], more: text[d.Below(len(text))],
				data: of([]string{"", "a", "]]>", "?>", "a]]", "T"}[d.Below(6)]), has: d.Below(2) == 0}
			for i, n := range f.Nodes {
				if n.Kind == api.KindDoctype && d.Below(2) == 0 {
					x.h = i + 1
				}
			}
			doc := f.Nodes[d.Below(len(f.Nodes))].Doc
			if d.Below(8) == 0 {
				doc, x.h = d.Below(30)-2, d.Below(30)-2
			}
			a := do(f, doc, x)
			if a.why != api.OK {
				refuses(t, name, a, a.why)
				continue
			}
			wantFollows(t, name, f, doc, x, a)
			done++
			if name == "Document" && x.h != 0 && f.Nodes[x.h-1].Parent != 0 {
				taken++
			}
		}
		if !forest.Same(f, was) {
			t.Fatal("the forest that was handed in is turned")
		}
	}
	if done < 1000 || taken < 5 {
		t.Error("too few of a kind:", done, taken)
	}
}
