package react

import (
	"slices"

	"canopy/api"
	"canopy/custom"
	"canopy/order"
)

// teller is who tells elements: those that wait, the registry by which it is told who is a custom one, the callbacks by their kinds, and what is known of elements by now.
type teller struct {
	line      *line
	roll      custom.Roll
	callbacks map[api.ReactionKind]func(api.Definition) int
	known     map[int]*being
}

// being is what is known of an element: how far it is, its definition, if it has one; and, if that was asked for, the name of the one that could upgrade it.
type being struct {
	api.Custom
	definition api.Definition
	asked      bool
	upgrade    string
}

func tellerOf(s api.Reacts, roll custom.Roll) *teller {
	return &teller{line: lineOf(s), roll: roll, callbacks: callbacks(), known: map[int]*being{}}
}

// callbacks has of each kind of reaction the callback that a definition has for it.
func callbacks() map[api.ReactionKind]func(api.Definition) int {
	return map[api.ReactionKind]func(api.Definition) int{
		api.ReactConnected:    func(d api.Definition) int { return d.Connected },
		api.ReactDisconnected: func(d api.Definition) int { return d.Disconnected },
		api.ReactAdopted:      func(d api.Definition) int { return d.Adopted },
		api.ReactChanged:      func(d api.Definition) int { return d.Changed },
	}
}

// started are the states of an element whose upgrade began: what it is told of then it is told though it may fail.
func started() []api.CustomState { return []api.CustomState{api.StateFailed, api.StateCustom} }

// of is what is known of an element: it is asked for once, since changes may come by an element again and again.
func (t *teller) of(h int) *being {
	b, is := t.known[h]
	if !is {
		b = &being{Custom: t.roll.Of(h)}
		b.definition, _ = t.roll.Named(b.Definition)
		t.known[h] = b
	}
	return b
}

// tell tells a custom element something; false, if there is no room.
func (t *teller) tell(r api.Reaction) bool { return t.tellOne(r, api.StateCustom) }

// tellOne tells an element something, if it is as far as one of some states, and its definition wants it; false, if there is no room.
func (t *teller) tellOne(r api.Reaction, states ...api.CustomState) bool {
	b := t.of(r.Element)
	if !slices.Contains(states, b.State) || r.Kind == api.ReactChanged && !slices.Contains(b.definition.Observed, r.Local) {
		return true
	}
	r.Callback, r.Definition = t.callbacks[r.Kind](b.definition), ""
	return r.Callback == 0 || t.line.wait(r)
}

// try has an element of a name wait for an upgrade, if it is not further and there is a definition for it; false, if there is no room.
func (t *teller) try(h int, n api.Name) bool {
	b := t.of(h)
	if b.State != api.StateUncustomized && b.State != api.StateUndefined {
		return true
	}
	if !b.asked {
		d, _ := t.roll.Look(n.Space, n.Local, b.Is)
		b.asked, b.upgrade = true, d.Name
	}
	return b.upgrade == "" || t.line.wait(api.Reaction{Element: h, Kind: api.ReactUpgrade, Definition: b.upgrade})
}

// start tells an element what it is when its upgrade begins; false, if there is no room.
func (t *teller) start(f api.Forest, h int) bool {
	for _, a := range f.Nodes[h-1].Attrs {
		told := api.Reaction{Element: h, Kind: api.ReactChanged, Local: a.Name.Local, Space: a.Name.Space, New: a.Value, Has: true}
		if !t.tellOne(told, started()...) {
			return false
		}
	}
	connected, _ := order.Connected(f, h)
	return !connected || t.tellOne(api.Reaction{Element: h, Kind: api.ReactConnected}, started()...)
}
