package world

import (
	"canopy/abort"
	"canopy/api"
	"canopy/dispatch"
	"canopy/listen"
	"canopy/path"
)

// The bits of an event.
const (
	bubblesBit = 1 << iota
	cancelableBit
	composedBit
)

// The bits of a listener.
const (
	captureBit = 1 << iota
	onceBit
	passiveBit
	activeBit
)

// dispatch has an event go its way from a node: whether nothing prevented it.
func (w *World) dispatch(kind string, h, bits int) (bool, api.Errno) {
	r, why := w.begin(api.Event{
		Type: kind, Bubbles: bit(bits, bubblesBit), Cancelable: bit(bits, cancelableBit), Composed: bit(bits, composedBit), Target: h,
	})
	if why == api.OK && len(w.runs) == api.MaxNest {
		why = api.ErrMany
	}
	if why != api.OK {
		return false, why
	}
	at := len(w.runs)
	w.runs = append(w.runs, r)
	for w.goOn(at) {
	}
	if w.exhausted {
		return false, api.OK
	}
	_, fine, why := dispatch.End(w.runs[at])
	w.runs = w.runs[:at]
	return fine, why
}

// begin is the dispatch of an event at its target.
func (w *World) begin(e api.Event) (api.Run, api.Errno) {
	steps, why := path.Path(w.has.Forest, w.has.Hand, e.Target, 0, e.Composed)
	if why != api.OK {
		return api.Run{}, why
	}
	clears, why := path.Clears(w.has.Forest, steps)
	if why != api.OK {
		return api.Run{}, why
	}
	return dispatch.Begin(steps, e, clears)
}

// goOn calls the next listener of a dispatch: whether there was one, and there may be more. The callback may do something to the dispatch meanwhile.
func (w *World) goOn(at int) bool {
	r, left, call, is, _ := dispatch.Next(w.has.Listeners, w.runs[at])
	w.runs[at], w.has.Listeners = r, left
	if is {
		w.call(call.Callback, cause{api.BecauseEvent, r.Event.Current, int(r.Event.Phase)})
	}
	return is && !w.exhausted
}

func (w *World) listen(c api.Command) (answer, api.Errno) {
	if !w.isNode(c.A) || c.B < 0 || c.B > len(w.has.Signals) || !w.isProgram(c.N) {
		return answer{}, api.ErrRange
	}
	x := api.Listener{
		Node: c.A, Type: c.S, Callback: c.N, Capture: bit(c.M, captureBit), Once: bit(c.M, onceBit), Signal: c.B,
	}
	switch {
	case bit(c.M, passiveBit):
		x.Passive = api.PassiveOn
	case bit(c.M, activeBit):
		x.Passive = api.PassiveOff
	}
	more, id, why := listen.Add(w.has.Listeners, x, w.isRoot(c.A), c.B > 0 && w.has.Signals[c.B-1].Aborted)
	w.has.Listeners = more
	return number(id, why)
}

// isRoot tells whether a node is a document, or its element.
func (w *World) isRoot(h int) bool {
	isDocument := func(h int) bool { return w.isNode(h) && w.node(h).Kind == api.KindDocument }
	return isDocument(h) || w.node(h).Kind == api.KindElement && isDocument(w.node(h).Parent)
}

func (w *World) unlisten(c api.Command) (answer, api.Errno) {
	left, id, why := listen.Remove(w.has.Listeners, c.A, c.S, c.N, bit(c.M, captureBit))
	w.has.Listeners = left
	return number(id, why)
}

func (w *World) send(c api.Command) (answer, api.Errno) {
	if c.N < 0 {
		return answer{}, api.ErrRange
	}
	fine, why := w.dispatch(c.S, c.A, c.N)
	return number(counted(fine), why)
}

func (w *World) effect(c api.Command) (answer, api.Errno) {
	last := len(w.runs) - 1
	switch {
	case last < 0:
		return answer{}, api.ErrState
	case c.N < 0 || c.N >= int(api.EffectCount):
		return answer{}, api.ErrType
	}
	r, why := dispatch.Act(w.runs[last], api.Effect(c.N))
	if why == api.OK {
		w.runs[last] = r
	}
	return answer{}, why
}

func (w *World) signal(api.Command) (answer, api.Errno) {
	more, h, why := abort.New(w.has.Signals, 0)
	w.has.Signals = more
	return number(h, why)
}

func (w *World) any(c api.Command) (answer, api.Errno) {
	more, h, why := abort.Any(w.has.Signals, c.List)
	w.has.Signals = more
	return number(h, why)
}

func (w *World) abort(c api.Command) (answer, api.Errno) {
	turned, told, why := abort.Abort(w.has.Signals, c.A, c.N)
	w.has.Signals = turned
	for _, signal := range told {
		w.has.Listeners, _ = listen.Abort(w.has.Listeners, signal)
	}
	return number(len(told), why)
}
