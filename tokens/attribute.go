package tokens

import (
	"slices"
	"strings"

	"canopy/api"
	"canopy/attrs"
	"canopy/names"
	"canopy/units"
)

// attribute is the one of an element that tokens stand in, whether it is there or not.
type attribute struct {
	forest api.Forest
	h      int
	local  string
	value  string
	is     bool
}

// attributeOf is an element's attribute of a local name and no namespace, if there can be one.
func attributeOf(f api.Forest, h int, local string) (attribute, api.Errno) {
	value, is, why := attrs.GetNS(f, h, "", local)
	switch {
	case why != api.OK:
		return attribute{}, why
	case len(local) > api.MaxName:
		return attribute{}, api.ErrLong
	case !names.Name(local):
		return attribute{}, api.ErrCharacter
	}
	return attribute{f, h, local, value, is}, api.OK
}

func (a attribute) tokens() []string { return units.Set(units.Split(a.value)) }

// stays is the forest as it was.
func (a attribute) stays() (api.Forest, []api.Change, api.Errno) {
	// No attribute is without a local name, so that nothing is removed: what is answered is a copy.
	return attrs.RemoveNS(a.forest, a.h, "", "")
}

// having has tokens from now on.
func (a attribute) having(l []string) (api.Forest, []api.Change, api.Errno) {
	if len(l) == 0 && !a.is {
		return a.stays()
	}
	return a.put(strings.Join(l, " "))
}

// put has a value from now on. It is done here, by a copy: attrs.SetNS takes not every name (none with a colon, not xmlns), and attrs.Set may turn its case, or find an attribute of a namespace.
func (a attribute) put(value string) (api.Forest, []api.Change, api.Errno) {
	if len(value) > api.MaxValue {
		return api.Forest{}, nil, api.ErrLong
	}
	g, _, why := a.stays()
	if why != api.OK {
		return api.Forest{}, nil, why
	}
	name := api.Name{Local: a.local}
	n := &g.Nodes[a.h-1]
	at := slices.IndexFunc(n.Attrs, func(one api.Attr) bool { return one.Name == name })
	switch {
	case at >= 0:
		n.Attrs[at].Value = value
	case len(n.Attrs) >= api.MaxAttrs:
		return api.Forest{}, nil, api.ErrMany
	default:
		n.Attrs = append(n.Attrs, api.Attr{Name: name, Value: value})
	}
	return g, []api.Change{{
		Kind: api.ChangeAttr, Node: a.h, Name: name, Old: a.value, Value: value, Had: a.is, Has: true,
	}}, api.OK
}

// renewed has the tokens that are told by those that there were, if none of the list that is handed in is wrong.
func renewed(f api.Forest, h int, local string, l []string, tell func([]string) []string) (api.Forest, []api.Change, api.Errno) {
	a, why := attributeOf(f, h, local)
	if why != api.OK {
		return api.Forest{}, nil, why
	}
	if len(l) > api.MaxList {
		return api.Forest{}, nil, api.ErrMany
	}
	if why := wrong(l...); why != api.OK {
		return api.Forest{}, nil, why
	}
	return a.having(tell(a.tokens()))
}

// turned has a token, or has it not, where it was otherwise.
func (a attribute) turned(token string, had, has bool) (api.Forest, []api.Change, api.Errno) {
	switch {
	case had == has:
		return a.stays()
	case has:
		return a.having(append(a.tokens(), token))
	}
	return a.having(left(a.tokens(), among(token)))
}

// exchanged has one token in the place of another that it had, or in its own, where that is ahead.
func (a attribute) exchanged(token, by string, had bool) (api.Forest, []api.Change, api.Errno) {
	if !had {
		return a.stays()
	}
	l, either := a.tokens(), among(token, by)
	at := slices.IndexFunc(l, either)
	return a.having(slices.Concat(l[:at], []string{by}, left(l[at:], either)))
}

// wrong is the error of the first one of some tokens that is wrong.
func wrong(all ...string) api.Errno {
	for _, token := range all {
		if token == "" {
			return api.ErrSyntax
		}
		if slices.ContainsFunc([]byte(token), units.Blank) {
			return api.ErrCharacter
		}
	}
	return api.OK
}

// among tells of a token whether it is one of some. They are laid into a map: both lists may be long.
func among(some ...string) func(string) bool {
	known := map[string]struct{}{}
	for _, token := range some {
		known[token] = struct{}{}
	}
	return func(token string) bool {
		_, is := known[token]
		return is
	}
}

// left are the tokens without those that go.
func left(l []string, goes func(string) bool) []string {
	return slices.DeleteFunc(slices.Clone(l), goes)
}
