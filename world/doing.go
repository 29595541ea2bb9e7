package world

import (
	"canopy/api"
	"canopy/custom"
	"canopy/observe"
	"canopy/react"
)

// observersTask is the microtask in which slots and observers are told; those of programs have their numbers, which begin at 1.
const observersTask = 0

// mark tells of something, as long as something happens.
func (w *World) mark(m api.Mark) {
	if !w.exhausted {
		w.marks = append(w.marks, m)
	}
}

// exhaust has nothing happen any more, once: whether this was the time.
func (w *World) exhaust() bool {
	first := false
	w.over.Do(func() { first, w.exhausted = true, true })
	return first
}

// burn takes something from the fuel. Where none is left, nothing happens any more: whoever goes on behind something that burns asks whether that is so.
func (w *World) burn() bool {
	if w.fuel.Load() > 0 {
		w.fuel.Add(-1)
		return true
	}
	if w.exhaust() {
		w.marks = append(w.marks, api.Mark{Kind: api.MarkExhausted})
	}
	return false
}

// cause is why a program is called.
type cause struct {
	because     api.Because
	node, value int
}

// call calls a program: why it ended. The program 0 is none.
func (w *World) call(program int, c cause) api.Errno {
	if program == 0 || !w.burn() {
		return api.OK
	}
	why := api.ErrMany
	if w.nest < api.MaxNest {
		w.mark(api.Mark{Kind: api.MarkEnter, Program: program, Because: c.because, Node: c.node, Value: c.value})
		why = w.within(program)
	}
	w.mark(api.Mark{Kind: api.MarkLeave, Program: program, Why: why})
	return why
}

// within does the commands of a program, till one is refused.
func (w *World) within(program int) api.Errno {
	w.nest++
	why := api.OK
	for _, c := range w.programs[program-1] {
		if why = w.do(c); why != api.OK || w.exhausted {
			break
		}
	}
	w.nest--
	return why
}

// do does a command: why it is refused.
func (w *World) do(c api.Command) api.Errno {
	if !w.burn() {
		return api.OK
	}
	// No more lists are stacked than programs are within one another, and one, so that there is always room.
	w.has.reacts, _ = react.Push(w.has.reacts)
	a, why := w.perform(c)
	if w.exhausted {
		return api.OK
	}
	w.react()
	w.mark(api.Mark{Kind: api.MarkDone, Op: c.Op, Why: why, Value: a.value, Text: a.text})
	return why
}

// perform does what the Op says. What is refused has called no program, so that all of it is taken back by having what there was.
func (w *World) perform(c api.Command) (answer, api.Errno) {
	d := deedOf(c.Op)
	if d.does == nil {
		return answer{}, api.ErrType
	}
	was := w.has
	a, why := d.does(w, c)
	if why != api.OK {
		w.has = was
		return answer{}, why
	}
	return a, api.OK
}

// react does the reactions of the last list of elements; and, where no list is left, those of the backup list.
func (w *World) react() {
	left, elements, _ := react.Pop(w.has.reacts)
	w.has.reacts = left
	w.reactTill(func() (r api.Reaction, is bool) {
		w.has.reacts, elements, r, is, _ = react.Take(w.has.reacts, elements)
		return r, is
	})
	if len(w.has.reacts.Stack) > 0 {
		return
	}
	w.reactTill(func() (r api.Reaction, is bool) {
		w.has.reacts, r, is, _ = react.Backup(w.has.reacts)
		return r, is
	})
}

// reactTill does one reaction behind the other, till there is none.
func (w *World) reactTill(next func() (api.Reaction, bool)) {
	for !w.exhausted {
		r, is := next()
		if !is {
			return
		}
		if r.Kind == api.ReactUpgrade {
			w.upgrade(r.Element, r.Definition)
		} else {
			w.call(r.Callback, cause{becauseOf(r.Kind), r.Element, r.To})
		}
	}
}

// becauseOf is why a callback of a kind is called.
func becauseOf(k api.ReactionKind) api.Because {
	return [...]api.Because{
		api.ReactUpgrade:      api.BecauseConstruct,
		api.ReactConnected:    api.BecauseConnected,
		api.ReactDisconnected: api.BecauseDisconnected,
		api.ReactAdopted:      api.BecauseAdopted,
		api.ReactChanged:      api.BecauseChanged,
	}[k]
}

// upgrade has an element become a custom one, if it may still. It has failed, till its constructor has ended.
func (w *World) upgrade(h int, definition string) {
	e, _ := custom.Of(w.has.Registry, h)
	if e.State != api.StateUncustomized && e.State != api.StateUndefined {
		return
	}
	w.has.set(h, api.StateFailed, definition)
	if more, _, why := react.Started(w.has.Forest, w.has.reacts, w.has.Registry, h); why == api.OK {
		w.has.reacts = more
	}
	d, _, _ := custom.Get(w.has.Registry, definition)
	why := w.call(d.Constructor, cause{becauseOf(api.ReactUpgrade), h, 0})
	switch {
	case w.exhausted:
	case why != api.OK:
		w.has.forget(h)
	default:
		w.has.set(h, api.StateCustom, definition)
	}
}

// doMicrotasks does them one by one, till there is none: where none waits, the loop would go on to tasks.
func (w *World) doMicrotasks() {
	for _, n, _ := w.loop.Waiting(); n > 0 && !w.exhausted; _, n, _ = w.loop.Waiting() {
		if turn := w.loop.Next(0); turn.Id == observersTask {
			w.notify()
		} else {
			w.call(turn.Id, cause{because: api.BecauseMicro})
		}
	}
}

// notify tells observers of their records, and slots that something else is assigned.
func (w *World) notify() {
	slots := w.has.slots
	w.has.waits, w.has.slots = false, nil
	var notices []api.Notice
	w.has.Watch, notices, _ = observe.Notify(w.has.Watch)
	for _, n := range notices {
		w.call(w.has.Programs[n.Observer-1], cause{api.BecauseRecords, n.Observer, len(n.Records)})
	}
	for _, slot := range slots {
		if w.exhausted {
			return
		}
		w.dispatch("slotchange", slot, bubblesBit)
	}
}

// await has observers and slots be told, if there is something to tell.
func (w *World) await() api.Errno {
	if w.has.waits || !w.has.tells() {
		return api.OK
	}
	w.has.waits = true
	return w.loop.Micro(observersTask)
}
