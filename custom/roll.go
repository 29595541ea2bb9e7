package custom

import (
	"cmp"
	"slices"

	"canopy/api"
)

// Roll is a registry that was found to be right, for who asks much of it: each call that is handed a registry goes over all of it first. What it answers is the registry's own memory.
type Roll struct{ registry api.Registry }

// Read is the roll of a registry, if that is right.
func Read(r api.Registry) (Roll, api.Errno) {
	if why := Check(r); why != api.OK {
		return Roll{}, why
	}
	return Roll{r}, api.OK
}

// first is the first definition that fits.
func (l Roll) first(fits func(api.Definition) bool) (api.Definition, bool) {
	at := slices.IndexFunc(l.registry.Definitions, fits)
	if at < 0 {
		return api.Definition{}, false
	}
	return l.registry.Definitions[at], true
}

// Named is the definition of a name.
func (l Roll) Named(name string) (api.Definition, bool) {
	return l.first(func(d api.Definition) bool { return d.Name == name })
}

// Look is the definition of an element's name: one of the element's own name goes ahead of one of its is.
func (l Roll) Look(space, local, is string) (api.Definition, bool) {
	if space != api.SpaceHTML {
		return api.Definition{}, false
	}
	for _, name := range []string{local, is} {
		if d, found := l.first(func(d api.Definition) bool { return d.Name == name && d.Local == local }); found {
			return d, true
		}
	}
	return api.Definition{}, false
}

// place is where an element stands among all, or would stand, and whether it does.
func (l Roll) place(h int) (int, bool) {
	return slices.BinarySearchFunc(l.registry.Elements, h, func(e api.Custom, h int) int { return cmp.Compare(e.Node, h) })
}

// Of is how far an element is.
func (l Roll) Of(h int) api.Custom {
	if at, among := l.place(h); among {
		return l.registry.Elements[at]
	}
	return api.Custom{Node: h}
}

// upgrades tells whether a definition upgrades a node. One that nobody began may be upgraded, too, but has no is.
func (l Roll) upgrades(d api.Definition, h int, n api.Node) bool {
	_, among := l.place(h)
	e := l.Of(h)
	return n.Kind == api.KindElement && n.Name.Space == api.SpaceHTML && n.Name.Local == d.Local &&
		(!among || e.State == api.StateUndefined) && (d.Local == d.Name || e.Is == d.Name)
}
