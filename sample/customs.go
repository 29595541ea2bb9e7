package sample

import (
	"slices"

	"canopy/api"
)

// Cast is Tree of a text, but x, y and z are the elements x-a, x-b and x-c, u and v the elements button and div, all of SpaceHTML, and w is an x-a of SpaceSVG.
func Cast(text string) api.Forest {
	f := Tree(text)
	for i, n := range f.Nodes {
		if n.Kind == api.KindElement {
			f.Nodes[i].Name = role(n.Name)
		}
	}
	return f
}

func role(n api.Name) api.Name {
	switch n.Local {
	case "x":
		return api.Name{Space: api.SpaceHTML, Local: "x-a"}
	case "y":
		return api.Name{Space: api.SpaceHTML, Local: "x-b"}
	case "z":
		return api.Name{Space: api.SpaceHTML, Local: "x-c"}
	case "u":
		return api.Name{Space: api.SpaceHTML, Local: "button"}
	case "v":
		return api.Name{Space: api.SpaceHTML, Local: "div"}
	case "w":
		return api.Name{Space: api.SpaceSVG, Local: "x-a"}
	}
	return n
}

// CustomName is a name that elements have that Cast casts, or another one.
func CustomName(d *Dice) api.Name { return role(api.Name{Local: string(rune('t' + d.Below(7)))}) }

// Customs is a forest that is grown, of n nodes, whose elements have such names, and attributes as Naming names them.
func Customs(d *Dice, n int) api.Forest {
	f := Thick(d, n)
	for i, n := range f.Nodes {
		if n.Kind == api.KindElement {
			f.Nodes[i].Name, f.Nodes[i].Attrs = CustomName(d), slotAttrs(d)
		}
	}
	return f
}

// Definition is one of a name that is one of few, with any callbacks, or none: of an element of its own, or of a built-in one.
func Definition(d *Dice) api.Definition {
	x := api.Definition{
		Name: "x-" + string(rune('a'+d.Below(5))), Constructor: 1 + d.Below(9),
		Connected: callback(d), Disconnected: callback(d), Adopted: callback(d), Changed: callback(d),
	}
	x.Local = x.Name
	if d.Below(2) == 0 {
		x.Local = []string{"button", "div"}[d.Below(2)]
	}
	for _, name := range []string{"slot", "name", "class"} {
		if d.Below(2) == 0 {
			x.Observed = append(x.Observed, name)
		}
	}
	return x
}

// callback is none now and then.
func callback(d *Dice) int { return max(0, d.Below(13)-3) }

// Registry is a right one for forests with some nodes: a few definitions, and elements in each state, of nodes that are no elements, and that are not there, as well.
func Registry(d *Dice, f api.Forest) api.Registry {
	var r api.Registry
	for range d.Below(6) {
		if x := Definition(d); !isDefined(r, x) {
			r.Definitions = append(r.Definitions, x)
		}
	}
	for h := 1; h <= len(f.Nodes)+4; h++ {
		if d.Below(3) > 0 {
			r.Elements = append(r.Elements, element(d, r, h))
		}
	}
	return r
}

func isDefined(r api.Registry, x api.Definition) bool {
	return slices.ContainsFunc(r.Definitions, func(y api.Definition) bool { return y.Name == x.Name || y.Constructor == x.Constructor })
}

// element is an entry of a node: most often a custom one, if there are definitions.
func element(d *Dice, r api.Registry, h int) api.Custom {
	e := api.Custom{Node: h, State: api.CustomState(d.Below(2)), Is: []string{"", "x-z"}[d.Below(2)]}
	if len(r.Definitions) > 0 && d.Below(2) == 0 {
		e.Is = r.Definitions[d.Below(len(r.Definitions))].Name
	}
	if len(r.Definitions) > 0 && d.Below(2) == 0 {
		e.State, e.Definition = api.StateCustom, r.Definitions[d.Below(len(r.Definitions))].Name
		if d.Below(4) == 0 {
			e.State = api.StateFailed
		}
	}
	return e
}

// CopyRegistry has lists of its own in every part.
func CopyRegistry(r api.Registry) api.Registry {
	c := api.Registry{Elements: append([]api.Custom(nil), r.Elements...)}
	for _, x := range r.Definitions {
		x.Observed = append([]string(nil), x.Observed...)
		c.Definitions = append(c.Definitions, x)
	}
	return c
}

// RoomyRegistry is a copy that has room behind each list.
func RoomyRegistry(r api.Registry) api.Registry {
	c := CopyRegistry(r)
	for i, x := range c.Definitions {
		c.Definitions[i].Observed = roomy(x.Observed)
	}
	return api.Registry{Definitions: roomy(c.Definitions), Elements: roomy(c.Elements)}
}

// SameRegistry goes by what lists hold, so that nil and empty ones are alike.
func SameRegistry(a, b api.Registry) bool {
	return slices.Equal(a.Elements, b.Elements) && slices.EqualFunc(a.Definitions, b.Definitions, SameDefinition)
}

// SameDefinition holds definitions against each other in all fields.
func SameDefinition(a, b api.Definition) bool {
	return a.Name == b.Name && a.Local == b.Local && a.Constructor == b.Constructor && a.Connected == b.Connected &&
		a.Disconnected == b.Disconnected && a.Adopted == b.Adopted && a.Changed == b.Changed && slices.Equal(a.Observed, b.Observed)
}

// SpoilRegistry writes over all lists of a registry, and over the room behind them.
func SpoilRegistry(r api.Registry) {
	for _, x := range r.Definitions[:cap(r.Definitions)] {
		Fill(x.Observed, spoiltValue)
	}
	Fill(r.Definitions, api.Definition{Name: spoiltValue})
	Fill(r.Elements, api.Custom{Is: spoiltValue})
}

// SpoiltRegistry tells whether a list of a registry, or the room behind it, was written over.
func SpoiltRegistry(r api.Registry) bool {
	return has(r.Elements, api.Custom{Is: spoiltValue}) || slices.ContainsFunc(r.Definitions[:cap(r.Definitions)], func(x api.Definition) bool {
		return x.Name == spoiltValue || has(x.Observed, spoiltValue)
	})
}
