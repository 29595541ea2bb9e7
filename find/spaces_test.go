package find_test

import (
	"testing"

	"canopy/api"
	"canopy/find"
)

// xmlns is an attribute that declares the namespace of a prefix, "" for none.
func xmlns(prefix, space string) api.Attr {
	if prefix == "" {
		return attrNS(api.SpaceXMLNS, "", "xmlns", space)
	}
	return attrNS(api.SpaceXMLNS, "xmlns", prefix, space)
}

// wantSpaces sees which namespaces prefixes have at a node, and what Default says of them (11.2, 11.8).
func wantSpaces(t *testing.T, f api.Forest, h int, want map[string]string) {
	t.Helper()
	for prefix, space := range want {
		s, why := find.Space(f, h, prefix)
		wantOne(t, "Space of "+prefix, s, why, space)
	}
	none := want[""]
	for _, space := range []string{"", none, none + "x", "u", api.SpaceHTML, api.SpaceXML, api.SpaceXMLNS} {
		is, why := find.Default(f, h, space)
		wantOne(t, "Default of "+space, is, why, space == none)
	}
}

// wantPrefixes sees which prefixes namespaces have at a node.
func wantPrefixes(t *testing.T, f api.Forest, h int, want map[string]string) {
	t.Helper()
	for space, prefix := range want {
		s, why := find.Prefix(f, h, space)
		wantOne(t, "Prefix of "+space, s, why, prefix)
	}
}

// Words, 11.2: what is declared at the element, above it, and nowhere.
func TestDeclared(t *testing.T) {
	w := grown(false)
	top := w.element(1, api.Name{Space: "u", Prefix: "p", Local: "a"}, xmlns("", "none"), xmlns("q", "v"), xmlns("r", "w"))
	mid := w.element(top, api.Name{Local: "a"}, attr("x", "y"), xmlns("q", "v2"), xmlns("", ""))
	low := w.element(mid, api.Name{Space: "l", Local: "a"}, xmlns("r", ""), xmlns("p", "u2"))
	f := w.right(t)
	wantSpaces(t, f, top, map[string]string{"": "none", "p": "u", "q": "v", "r": "w", "s": "", "u": "", "xml": api.SpaceXML, "xmlns": api.SpaceXMLNS, "XML": "", "a": ""})
	wantSpaces(t, f, mid, map[string]string{"": "", "p": "u", "q": "v2", "r": "w", "s": "", "x": ""})
	wantSpaces(t, f, low, map[string]string{"": "l", "p": "u2", "q": "v2", "r": "", "s": "", "xml": api.SpaceXML, "xmlns": api.SpaceXMLNS})
	wantPrefixes(t, f, top, map[string]string{"": "", "u": "p", "v": "q", "w": "r", "none": "", "v2": "", "l": "", api.SpaceXML: "", api.SpaceXMLNS: ""})
	wantPrefixes(t, f, mid, map[string]string{"": "", "u": "p", "v": "q", "w": "r", "none": "", "v2": "q"})
	wantPrefixes(t, f, low, map[string]string{"": "", "u": "p", "v": "q", "w": "r", "u2": "p", "v2": "q", "l": ""})
}

// Words: an element's own name goes ahead of what it declares; what has no namespace, or another prefix, goes on; xml and xmlns are what they are, whatever is declared.
func TestOwnName(t *testing.T) {
	w := grown(false)
	top := w.element(1, api.Name{Space: "u", Prefix: "p", Local: "a"}, xmlns("p", "other"), xmlns("z", "u"), xmlns("xml", "m"), xmlns("", "d"))
	plain := w.element(top, api.Name{Space: "own", Local: "a"}, xmlns("", "other"), xmlns("o", "own"))
	bare := w.element(top, api.Name{Local: "a"})
	odd := w.element(top, api.Name{Local: "a"}, xmlns("xmlns", "n"))
	named := w.element(0, api.Name{Space: "x1", Prefix: "xml", Local: "a"})
	f := w.right(t)
	wantSpaces(t, f, top, map[string]string{"p": "u", "z": "u", "xml": api.SpaceXML, "xmlns": api.SpaceXMLNS, "": "d"})
	wantSpaces(t, f, plain, map[string]string{"": "own", "p": "u"})
	wantSpaces(t, f, bare, map[string]string{"": "d", "p": "u"})
	wantSpaces(t, f, odd, map[string]string{"xmlns": api.SpaceXMLNS, "": "d"})
	wantSpaces(t, f, named, map[string]string{"xml": api.SpaceXML, "": ""})
	wantPrefixes(t, f, top, map[string]string{"u": "p", "other": "p", "m": "xml", "n": "", "d": ""})
	wantPrefixes(t, f, odd, map[string]string{"n": "xmlns", "m": "xml", "d": ""})
	wantPrefixes(t, f, plain, map[string]string{"own": "o", "other": "p", "u": "p"})
	wantPrefixes(t, f, named, map[string]string{"x1": "xml", api.SpaceXML: ""})
}

// Words: Space goes by attributes with the namespace SpaceXMLNS and just that prefix; Prefix by the prefix xmlns alone, and takes the first one.
func TestWhichAttributes(t *testing.T) {
	w := grown(false)
	for _, a := range []api.Attr{
		attr("xmlns", "v"), attr("xmlns:p", "v"), attr("p", "v"), attrNS("u", "xmlns", "p", "v"), attrNS("u", "", "xmlns", "v"),
		attrNS(api.SpaceXMLNS, "", "p", "v"), attrNS(api.SpaceXMLNS, "x", "p", "v"), attrNS(api.SpaceXMLNS, "x", "xmlns", "v"), attrNS(api.SpaceXMLNS, "XMLNS", "p", "v"),
	} {
		h := w.element(0, api.Name{Local: "a"}, a)
		f := w.right(t)
		wantSpaces(t, f, h, map[string]string{"": "", "p": "", "x": "", "u": ""})
		prefix := ""
		if a.Name.Prefix == "xmlns" {
			prefix = "p"
		}
		wantPrefixes(t, f, h, map[string]string{"v": prefix, "": ""})
	}
	// An attribute xmlns of a prefix xmlns declares the prefix xmlns, which nobody asks for: not the namespace of none.
	h := w.element(0, api.Name{Local: "a"}, attrNS(api.SpaceXMLNS, "xmlns", "xmlns", "v"), xmlns("b", "v"), xmlns("c", "v"), attrNS("u", "xmlns", "d", "w"), xmlns("e", "w"))
	f := w.right(t)
	wantSpaces(t, f, h, map[string]string{"": "", "b": "v", "c": "v", "d": "", "e": "w"})
	wantPrefixes(t, f, h, map[string]string{"v": "xmlns", "w": "d"})
}

// Words: prefixes that are declared to be nothing are no prefixes of "".
func TestPrefixOfNothing(t *testing.T) {
	w := grown(false)
	h := w.element(1, api.Name{Local: "a"}, xmlns("p", ""), xmlns("", ""))
	f := w.right(t)
	for _, at := range []int{1, h} {
		wantPrefixes(t, f, at, map[string]string{"": ""})
		wantSpaces(t, f, at, map[string]string{"": "", "p": ""})
	}
}

// Words: at each kind of node: a document asks its element; a doctype, a fragment, a shadow root have none; all others ask their parent element.
func TestSpaceOfKinds(t *testing.T) {
	w := grown(true)
	doctype := w.put(1, api.Node{Kind: api.KindDoctype, Name: api.Name{Local: "a"}})
	comment := w.put(1, api.Node{Kind: api.KindComment})
	top := w.element(1, api.Name{Space: "u", Prefix: "p", Local: "a"}, xmlns("", "d"))
	last := w.put(1, api.Node{Kind: api.KindInstruction, Name: api.Name{Local: "a"}})
	within := []int{1, top}
	for _, k := range []api.NodeKind{api.KindText, api.KindCData, api.KindComment, api.KindInstruction} {
		n := api.Node{Kind: k}
		if k == api.KindInstruction {
			n.Name.Local = "a"
		}
		within = append(within, w.put(top, n))
	}
	without := []int{doctype, comment, last}
	root := w.shadow(top)
	fragment, empty := w.put(0, api.Node{Kind: api.KindFragment}), w.document(false)
	remark := w.document(false)
	without = append(without, root, fragment, empty, remark, w.put(remark, api.Node{Kind: api.KindComment}), w.put(fragment, api.Node{Kind: api.KindText}),
		w.put(root, api.Node{Kind: api.KindText}), w.put(0, api.Node{Kind: api.KindText}), w.put(0, api.Node{Kind: api.KindDoctype, Name: api.Name{Local: "a"}}))
	bare := []int{w.element(fragment, api.Name{Local: "a"}), w.element(root, api.Name{Local: "a"}), w.element(0, api.Name{Local: "a"})}
	bare = append(bare, w.put(bare[0], api.Node{Kind: api.KindText}), w.put(bare[1], api.Node{Kind: api.KindText}))
	f := w.right(t)
	for _, h := range within {
		wantSpaces(t, f, h, map[string]string{"": "d", "p": "u", "q": "", "xml": api.SpaceXML, "xmlns": api.SpaceXMLNS})
		wantPrefixes(t, f, h, map[string]string{"u": "p", "d": "", "": ""})
	}
	for _, h := range without {
		wantSpaces(t, f, h, map[string]string{"": "", "p": "", "xml": "", "xmlns": ""})
		wantPrefixes(t, f, h, map[string]string{"u": "", "d": "", "": ""})
	}
	for _, h := range bare { // what is above a shadow root or a fragment is not asked
		wantSpaces(t, f, h, map[string]string{"": "", "p": "", "xml": api.SpaceXML, "xmlns": api.SpaceXMLNS})
		wantPrefixes(t, f, h, map[string]string{"u": "", "d": "", "": ""})
	}
}

// Words: a way up of MaxNodes elements is gone to its end.
func TestFarAbove(t *testing.T) {
	w := grown(false)
	at := w.element(1, api.Name{Space: "u", Prefix: "p", Local: "a"})
	for len(w.f.Nodes) < api.MaxNodes {
		at = w.element(at, api.Name{Local: "a"})
	}
	f := w.right(t)
	wantSpaces(t, f, at, map[string]string{"p": "u", "": ""})
	wantPrefixes(t, f, at, map[string]string{"u": "p", "v": ""})
}
