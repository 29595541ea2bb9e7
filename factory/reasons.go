package factory

import (
	"slices"

	"canopy/api"
	"canopy/forest"
	"canopy/names"
)

// reason is what may speak against a node: OK, if it does not.
type reason func(n api.Node) api.Errno

// refused is the first one of some reasons that speaks against a node.
func refused(n api.Node, against ...reason) api.Errno {
	for _, ask := range against {
		if why := ask(n); why != api.OK {
			return why
		}
	}
	return api.OK
}

// because is a reason that is known already.
func because(why api.Errno) reason { return func(api.Node) api.Errno { return why } }

// wrong speaks against all nodes of a forest that is not right.
func wrong(f api.Forest) reason {
	return func(api.Node) api.Errno {
		why, _ := forest.Check(f)
		return why
	}
}

// noDocument speaks against a node whose document is none.
func noDocument(f api.Forest) reason {
	return func(n api.Node) api.Errno { return notOf(f, n.Doc, api.KindDocument) }
}

// noDoctype speaks against a handle that is neither a doctype's nor 0.
func noDoctype(f api.Forest, h int) reason {
	return func(api.Node) api.Errno {
		if h == 0 {
			return api.OK
		}
		return notOf(f, h, api.KindDoctype)
	}
}

// notOf is why a handle is not that of a node of a kind.
func notOf(f api.Forest, h int, k api.NodeKind) api.Errno {
	if !there(f, h) {
		return api.ErrRange
	}
	if f.Nodes[h-1].Kind != k {
		return api.ErrType
	}
	return api.OK
}

// ofHTML speaks against a node of an HTML document.
func ofHTML(f api.Forest) reason {
	return func(n api.Node) api.Errno {
		if isHTML(f, n.Doc) {
			return api.ErrUnsupported
		}
		return api.OK
	}
}

func longName(n api.Node) api.Errno { return longerThan(api.MaxName, len(n.Name.Local)) }

func longIds(n api.Node) api.Errno {
	return longerThan(api.MaxName, max(len(n.Public), len(n.System)))
}

func longData(n api.Node) api.Errno { return longerThan(api.MaxData, len(n.Data)) }

func longerThan(most, length int) api.Errno {
	if length > most {
		return api.ErrLong
	}
	return api.OK
}

func noName(n api.Node) api.Errno {
	if !names.Name(n.Name.Local) {
		return api.ErrCharacter
	}
	return api.OK
}

// holding speaks against data in which some units stand, one right behind the other: they would end the node wherever it is written.
func holding(end ...uint16) reason {
	return func(n api.Node) api.Errno {
		for from := 0; from+len(end) <= len(n.Data); from++ {
			if slices.Equal(n.Data[from:from+len(end)], end) {
				return api.ErrCharacter
			}
		}
		return api.OK
	}
}

func there(f api.Forest, h int) bool { return h >= 1 && h <= len(f.Nodes) }

// isHTML may be asked of any forest, and of any number.
func isHTML(f api.Forest, doc int) bool { return there(f, doc) && f.Nodes[doc-1].HTML }

// nameIn is an element's name where nothing but a local one is told.
func nameIn(f api.Forest, doc int, local string) api.Name {
	if !isHTML(f, doc) {
		return api.Name{Local: local}
	}
	return api.Name{Space: api.SpaceHTML, Local: small(local)}
}

// small has a to z for A to Z. It goes by bytes: those that are of no rune must stay as they are, so that they are no name.
func small(s string) string {
	b := []byte(s)
	for i, c := range b {
		if 'A' <= c && c <= 'Z' {
			b[i] = c - 'A' + 'a'
		}
	}
	return string(b)
}
