package world

import (
	"maps"
	"slices"

	"canopy/api"
	"canopy/attrs"
	"canopy/chardata"
	"canopy/clone"
	"canopy/factory"
	"canopy/mutate"
	"canopy/shadow"
	"canopy/slots"
	"canopy/tokens"
)

func (w *World) element(c api.Command) (answer, api.Errno) {
	g, l, h, why := factory.Element(w.has.Forest, theDocument, c.S)
	return w.become(g, l, c.T, h, why)
}

func (w *World) text(c api.Command) (answer, api.Errno) {
	return w.made(factory.Text(w.has.Forest, theDocument, c.Data))
}

func (w *World) comment(c api.Command) (answer, api.Errno) {
	return w.made(factory.Comment(w.has.Forest, theDocument, c.Data))
}

func (w *World) fragment(api.Command) (answer, api.Errno) {
	return w.made(factory.Fragment(w.has.Forest, theDocument))
}

func (w *World) clone(c api.Command) (answer, api.Errno) {
	return w.made(clone.Clone(w.has.Forest, c.A, c.Yes))
}

func (w *World) attach(c api.Command) (answer, api.Errno) {
	mode := api.ShadowNone
	switch c.N {
	case 1:
		mode = api.ShadowOpen
	case 2:
		mode = api.ShadowClosed
	}
	return w.made(shadow.Attach(w.has.Forest, c.A, mode, c.Yes))
}

func (w *World) insert(c api.Command) (answer, api.Errno) {
	return w.done(mutate.Insert(w.has.Forest, c.A, c.B, c.C))
}

func (w *World) replace(c api.Command) (answer, api.Errno) {
	return w.done(mutate.Replace(w.has.Forest, c.A, c.B, c.C))
}

func (w *World) remove(c api.Command) (answer, api.Errno) {
	return w.done(mutate.Remove(w.has.Forest, c.B, c.A))
}

func (w *World) normalize(c api.Command) (answer, api.Errno) {
	return w.done(mutate.Normalize(w.has.Forest, c.A))
}

func (w *World) content(c api.Command) (answer, api.Errno) {
	return w.done(mutate.SetContent(w.has.Forest, c.A, c.Data))
}

func (w *World) assign(c api.Command) (answer, api.Errno) {
	hand, why := shadow.Give(w.has.Forest, w.has.Hand, c.A, c.List)
	if why != api.OK {
		return answer{}, why
	}
	was, _ := slots.Of(w.has.Forest, w.has.Hand).Everywhere()
	is, _ := slots.Of(w.has.Forest, hand).Everywhere()
	w.has.Hand = hand
	w.has.mustTell(turned(was, is))
	return number(0, w.await())
}

// turned are the slots, by rising handles, that have something else in one map than in the other one.
func turned(was, is map[int][]int) []int {
	list := slices.Concat(slices.Collect(maps.Keys(was)), slices.Collect(maps.Keys(is)))
	list = slices.DeleteFunc(list, func(slot int) bool { return slices.Equal(was[slot], is[slot]) })
	slices.Sort(list)
	return slices.Compact(list)
}

func (w *World) data(c api.Command) (answer, api.Errno) {
	if !offset(c.N) || !offset(c.M) {
		return answer{}, api.ErrRange
	}
	return w.done(chardata.Replace(w.has.Forest, c.A, uint32(c.N), uint32(c.M), c.Data))
}

func (w *World) split(c api.Command) (answer, api.Errno) {
	if !offset(c.N) {
		return answer{}, api.ErrRange
	}
	g, h, l, why := chardata.Split(w.has.Forest, c.A, uint32(c.N))
	return w.made(g, l, h, why)
}

func (w *World) setAttr(c api.Command) (answer, api.Errno) {
	return w.done(attrs.Set(w.has.Forest, c.A, c.S, c.T))
}

func (w *World) delAttr(c api.Command) (answer, api.Errno) {
	return w.done(attrs.Remove(w.has.Forest, c.A, c.S))
}

// toggle hands on a force that is none as one: a number beyond its type would come out as another one.
func (w *World) toggle(c api.Command) (answer, api.Errno) {
	force := api.ForceCount
	if c.N >= 0 && c.N < int(api.ForceCount) {
		force = api.Force(c.N)
	}
	g, l, is, why := tokens.Toggle(w.has.Forest, c.A, "class", c.S, force)
	return w.made(g, l, counted(is), why)
}
