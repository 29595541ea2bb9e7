package attrs

import (
	"slices"

	"canopy/api"
	"canopy/forest"
	"canopy/names"
)

// elementOf is the node of a handle, if it is an element.
func elementOf(f api.Forest, h int) (api.Node, api.Errno) {
	if why, _ := forest.Check(f); why != api.OK {
		return api.Node{}, why
	}
	if h < 1 || h > len(f.Nodes) {
		return api.Node{}, api.ErrRange
	}
	if f.Nodes[h-1].Kind != api.KindElement {
		return api.Node{}, api.ErrType
	}
	return f.Nodes[h-1], api.OK
}

// wrong is why a qualified name or a value can't be one that is set.
func wrong(qualified, value string) api.Errno {
	if len(qualified) > api.MaxName || len(value) > api.MaxValue {
		return api.ErrLong
	}
	if !names.Name(qualified) {
		return api.ErrCharacter
	}
	return api.OK
}

// asked is a qualified name as an element is asked by it.
func asked(f api.Forest, n api.Node, qualified string) string {
	if n.Name.Space == api.SpaceHTML && f.Nodes[n.Doc-1].HTML {
		return small(qualified)
	}
	return qualified
}

// small has a to z for A to Z. It goes by bytes: those that are of no rune must stay as they are.
func small(s string) string {
	b := []byte(s)
	for i, c := range b {
		if 'A' <= c && c <= 'Z' {
			b[i] = c - 'A' + 'a'
		}
	}
	return string(b)
}

// fit tells whether an attribute is the one that is looked for.
type fit func(api.Attr) bool

// called fits what has a qualified name: there may be several.
func called(qualified string) fit {
	return func(a api.Attr) bool { return names.Qualified(a.Name) == qualified }
}

// known fits what has a namespace and a local name: there is one at most.
func known(space, local string) fit {
	return func(a api.Attr) bool { return a.Name.Space == space && a.Name.Local == local }
}

// firstOf is the first attribute that is fit; each of some fits is tried only where none ahead of it has found one.
func firstOf(l []api.Attr, fits ...fit) (api.Attr, bool) {
	for _, one := range fits {
		if at := slices.IndexFunc(l, one); at >= 0 {
			return l[at], true
		}
	}
	return api.Attr{}, false
}

// given has a value for the attribute of a qualified name, as its element is asked by it; where there is none, for that which one more would clash with.
func given(f api.Forest, h int, qualified, value string) (api.Forest, []api.Change, api.Errno) {
	one := api.Attr{Name: api.Name{Local: qualified}, Value: value}
	return put(f, h, one, called(qualified), known("", qualified))
}

// put has an attribute's value from now on for the first one that is fit, whatever its name; where there is none, that attribute is one more.
func put(f api.Forest, h int, one api.Attr, fits ...fit) (api.Forest, []api.Change, api.Errno) {
	l := f.Nodes[h-1].Attrs
	c := api.Change{Kind: api.ChangeAttr, Node: h, Name: one.Name, Value: one.Value, Has: true}
	if old, is := firstOf(l, fits...); is {
		c.Name, c.Old, c.Had = old.Name, old.Value, true
	} else if len(l) >= api.MaxAttrs {
		return api.Forest{}, nil, api.ErrMany
	}
	return done(f, c)
}

// taken has the first attribute that is fit no more.
func taken(f api.Forest, h int, fits ...fit) (api.Forest, []api.Change, api.Errno) {
	old, is := firstOf(f.Nodes[h-1].Attrs, fits...)
	if !is {
		return done(f)
	}
	return done(f, api.Change{Kind: api.ChangeAttr, Node: h, Name: old.Name, Old: old.Value, Had: true})
}

// turned has an attribute of a qualified name, or has it not, where it was otherwise.
func turned(f api.Forest, h int, qualified string, had, has bool) (api.Forest, []api.Change, api.Errno) {
	switch {
	case had == has:
		return done(f)
	case has:
		return given(f, h, qualified, "")
	}
	return taken(f, h, called(qualified))
}

// done is the forest behind some changes, and these.
func done(f api.Forest, l ...api.Change) (api.Forest, []api.Change, api.Errno) {
	g, _, why := forest.All(f, l)
	if why != api.OK {
		return api.Forest{}, nil, why
	}
	return g, l, api.OK
}
