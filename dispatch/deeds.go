package dispatch

import (
	"slices"

	"canopy/api"
)

// happening is an event that something is done to.
type happening api.Event

func (e *happening) nothing() {}

func (e *happening) stop() { e.Stop = true }

func (e *happening) stopNow() { e.Stop, e.StopNow = true, true }

func (e *happening) prevent() { e.Canceled = e.Canceled || e.Cancelable && !e.Passive }

// act does what an effect is; the effect is one.
func act(e *api.Event, does api.Effect) {
	ways := [api.EffectCount]func(*happening){
		api.EffectNone:    (*happening).nothing,
		api.EffectStop:    (*happening).stop,
		api.EffectStopNow: (*happening).stopNow,
		api.EffectPrevent: (*happening).prevent,
	}
	ways[does]((*happening)(e))
}

// deed is what a callback does each time it is called.
type deed struct {
	does []api.Effect
	gone []int
}

// undoable is why what callbacks do can not be done.
func undoable(effects []api.Effects) api.Errno {
	if len(effects) > api.MaxList || slices.ContainsFunc(effects, tooMuch) {
		return api.ErrMany
	}
	if slices.ContainsFunc(effects, strange) {
		return api.ErrType
	}
	return api.OK
}

func tooMuch(x api.Effects) bool { return len(x.Does) > api.MaxList || len(x.Gone) > api.MaxList }

func strange(x api.Effects) bool {
	return slices.ContainsFunc(x.Does, func(e api.Effect) bool { return e >= api.EffectCount })
}

// deedsOf has what the first entry of each callback does.
func deedsOf(effects []api.Effects) map[int]*deed {
	deeds := make(map[int]*deed, len(effects))
	for _, x := range effects {
		if deeds[x.Callback] == nil {
			deeds[x.Callback] = &deed{different(x.Does), x.Gone}
		}
	}
	return deeds
}

// different has each effect once: within one call what is done again changes nothing, nor does the order.
func different(does []api.Effect) []api.Effect {
	l := slices.Clone(does)
	slices.Sort(l)
	return slices.Compact(l)
}

// undergo does to the event and the listeners what a callback does. Whom it takes away it takes away the first time: no Id comes back.
func (w *way) undergo(d *deed) {
	for _, does := range d.does {
		act(&w.run.Event, does)
	}
	for _, id := range d.gone {
		w.expire(id)
	}
	d.gone = nil
}
