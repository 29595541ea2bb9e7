package find

import (
	"iter"
	"slices"

	"canopy/api"
)

// The prefixes that have a namespace without a word.
const (
	xml   = "xml"
	xmlns = "xmlns"
)

// All here is asked of right forests, and of handles of their nodes.

// nearest is where namespaces are asked for that hold at a node: what is no element there has none. A doctype, a fragment, a shadow root need no word of their own: no element is their parent.
func nearest(f api.Forest, h int) int {
	switch n := f.Nodes[h-1]; n.Kind {
	case api.KindElement:
		return h
	case api.KindDocument:
		for kid := range elements(f, n.Kids) {
			return kid
		}
		return 0
	default:
		return n.Parent
	}
}

// upFrom yields the elements of which one after the other is asked for a namespace: the nearest one, its parent element, and so on.
func upFrom(f api.Forest, h int) iter.Seq[api.Node] {
	return func(yield func(api.Node) bool) {
		for at := nearest(f, h); isElement(f, at) && yield(f.Nodes[at-1]); at = f.Nodes[at-1].Parent {
		}
	}
}

// spaceAt is the namespace of a prefix. One that is declared to be "" ends the search as well: it is the way to have none.
func spaceAt(f api.Forest, h int, prefix string) string {
	for n := range upFrom(f, h) {
		switch {
		case prefix == xml:
			return api.SpaceXML
		case prefix == xmlns:
			return api.SpaceXMLNS
		case n.Name.Space != "" && n.Name.Prefix == prefix:
			return n.Name.Space
		}
		if at := slices.IndexFunc(n.Attrs, declares(prefix)); at >= 0 {
			return n.Attrs[at].Value
		}
	}
	return ""
}

// declares tells of an attribute whether its value is the namespace of a prefix.
func declares(prefix string) func(api.Attr) bool {
	name := api.Name{Space: api.SpaceXMLNS, Prefix: xmlns, Local: prefix}
	if prefix == "" {
		name = api.Name{Space: api.SpaceXMLNS, Local: xmlns}
	}
	return func(a api.Attr) bool { return a.Name == name }
}

// prefixAt is the prefix of a namespace: none has one for "", though one may be declared to be that.
func prefixAt(f api.Forest, h int, space string) string {
	if space == "" {
		return ""
	}
	for n := range upFrom(f, h) {
		if n.Name.Space == space && n.Name.Prefix != "" {
			return n.Name.Prefix
		}
		at := slices.IndexFunc(n.Attrs, func(a api.Attr) bool { return a.Name.Prefix == xmlns && a.Value == space })
		if at >= 0 {
			return n.Attrs[at].Name.Local
		}
	}
	return ""
}
