// Package names: names of elements and attributes, their namespaces and prefixes: see ../../shared/DOC.md and doc/02-names.md.
package names

import (
	"strings"

	"canopy/api"
)

// Start tells whether a rune may begin a name.
func Start(r rune) bool { return spanOf(r).begins }

// Part tells whether a rune may stand in a name.
func Part(r rune) bool { return spanOf(r) != span{} }

// Name tells whether a text is a name, with colons or without.
func Name(s string) bool { return runs(s, Start, Part) }

// NC tells whether a text is a name without a colon.
func NC(s string) bool { return runs(s, but(Start, colon), but(Part, colon)) }

// QName tells whether a text is an NC name, or two with a colon between.
func QName(s string) bool {
	prefix, local, both := strings.Cut(s, ":")
	if !both {
		return NC(s)
	}
	return NC(prefix) && NC(local)
}

// Custom tells whether a text may name a custom element.
func Custom(s string) bool {
	return runs(s, small, but(but(Part, colon), capital)) && strings.Contains(s, "-") && !taken(s)
}

// taken are names of SVG and MathML, which have a - but are no custom elements'.
func taken(s string) bool {
	switch s {
	case "annotation-xml", "color-profile", "font-face", "font-face-src", "font-face-uri", "font-face-format", "font-face-name", "missing-glyph":
		return true
	}
	return false
}

// Hosts tells whether an HTML element of that name may have a shadow root.
func Hosts(s string) bool { return Custom(s) || plainHost(s) }

func plainHost(s string) bool {
	switch s {
	case "article", "aside", "blockquote", "body", "div", "footer", "h1", "h2", "h3", "h4", "h5", "h6", "header", "main", "nav", "p", "section", "span":
		return true
	}
	return false
}

// Split is a qualified name's prefix and local name. Both are copies: a piece of s would share its memory.
func Split(s string) (string, string) {
	prefix, local, both := strings.Cut(s, ":")
	if !both || !NC(prefix) || !NC(local) {
		return "", strings.Clone(s)
	}
	return strings.Clone(prefix), strings.Clone(local)
}

// Qualified puts a prefix and a local name together.
func Qualified(n api.Name) string {
	if n.Prefix == "" {
		return strings.Clone(n.Local)
	}
	return n.Prefix + ":" + n.Local
}

// Validate refuses what is no qualified name.
func Validate(s string) api.Errno {
	if len(s) > api.MaxName {
		return api.ErrLong
	}
	if !QName(s) {
		return api.ErrCharacter
	}
	return api.OK
}

// Extract is a namespace and a qualified name, taken apart.
func Extract(space, qualified string) (api.Name, api.Errno) {
	if len(space) > api.MaxName {
		return api.Name{}, api.ErrLong
	}
	if why := Validate(qualified); why != api.OK {
		return api.Name{}, why
	}
	prefix, local := Split(qualified)
	if clash(space, prefix, qualified) {
		return api.Name{}, api.ErrNamespace
	}
	return api.Name{Space: strings.Clone(space), Prefix: prefix, Local: local}, api.OK
}

// clash tells whether a name may not be in its namespace: xmlns and the namespace of its own go together or not at all.
func clash(space, prefix, qualified string) bool {
	if prefix != "" && space == "" || prefix == "xml" && space != api.SpaceXML {
		return true
	}
	declares := qualified == "xmlns" || prefix == "xmlns"
	return declares != (space == api.SpaceXMLNS)
}

// Right tells whether a name may be one of an element or an attribute.
func Right(n api.Name) bool {
	again, why := Extract(n.Space, Qualified(n))
	return why == api.OK && again == n
}
