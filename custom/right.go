package custom

import (
	"slices"

	"canopy/api"
	"canopy/names"
)

// right tells whether a registry is right.
func right(r api.Registry) bool {
	if len(r.Definitions) > api.MaxDefinitions || len(r.Elements) > api.MaxNodes {
		return false
	}
	byName, byConstructor := make(map[string]int, len(r.Definitions)), make(map[int]int, len(r.Definitions))
	for i, d := range r.Definitions {
		if !wellMade(d) {
			return false
		}
		byName[d.Name], byConstructor[d.Constructor] = i, i
	}
	if len(byName) < len(r.Definitions) || len(byConstructor) < len(r.Definitions) {
		return false
	}
	last := 0
	for _, e := range r.Elements {
		_, defined := byName[e.Definition]
		if e.Node <= last || e.State >= api.StateCount || hasDefinition(e.State) && !defined || !hasDefinition(e.State) && e.Definition != "" {
			return false
		}
		last = e.Node
	}
	return true
}

// hasDefinition tells whether an element that is so far has a definition.
func hasDefinition(s api.CustomState) bool { return s == api.StateCustom || s == api.StateFailed }

// wellMade tells whether a definition is one, by itself.
func wellMade(d api.Definition) bool {
	return isName(d.Name) && fits(d) && d.Constructor != 0 && canObserve(d.Observed) && len(eachOnce(d.Observed)) == len(d.Observed)
}

// Names are held against limits first: one may be longer than anybody wants to go through.

func isName(s string) bool { return !tooLong(s) && names.Custom(s) }

func tooLong(s string) bool { return len(s) > api.MaxName }

// fits tells whether a definition's Local goes with its Name: another one is that of a built-in element.
func fits(d api.Definition) bool {
	return d.Local == d.Name || d.Local != "" && !tooLong(d.Local) && !names.Custom(d.Local)
}

func canObserve(l []string) bool { return len(l) <= api.MaxAttrs && !slices.ContainsFunc(l, tooLong) }

// eachOnce are names in their order, in new memory.
func eachOnce(l []string) []string {
	var once []string
	for _, name := range l {
		if !slices.Contains(once, name) {
			once = append(once, name)
		}
	}
	return once
}

// against is why a definition can't be one more of a right registry.
func against(r api.Registry, d api.Definition) api.Errno {
	taken := func(other api.Definition) bool { return other.Name == d.Name || other.Constructor == d.Constructor }
	switch {
	case !isName(d.Name):
		return api.ErrSyntax
	case slices.ContainsFunc(r.Definitions, taken) || !fits(d):
		return api.ErrUnsupported
	case d.Constructor == 0:
		return api.ErrType
	case !canObserve(d.Observed) || len(r.Definitions) == api.MaxDefinitions:
		return api.ErrMany
	}
	return api.OK
}
