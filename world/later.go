package world

import (
	"cmp"

	"canopy/api"
	"canopy/custom"
)

// The programs of a definition, by their places in a list.
const (
	constructor = iota
	connected
	disconnected
	adopted
	changed
	callbacks // how many there are
)

func (w *World) define(c api.Command) (answer, api.Errno) {
	if !w.isCallbacks(c.List) {
		return answer{}, api.ErrRange
	}
	turned, why := custom.Define(w.has.Registry, api.Definition{
		Name: c.S, Local: cmp.Or(c.T, c.S), Observed: c.Names,
		Constructor: c.List[constructor], Connected: c.List[connected], Disconnected: c.List[disconnected],
		Adopted: c.List[adopted], Changed: c.List[changed],
	})
	if why != api.OK {
		return answer{}, why
	}
	w.has.Registry = turned
	elements, why := custom.Candidates(w.has.Forest, turned, theDocument, c.S)
	for _, h := range elements {
		why = cmp.Or(why, w.has.try(h))
	}
	return answer{}, why
}

// isCallbacks tells whether a list has the programs of a definition: a constructor, and others, 0 for none.
func (w *World) isCallbacks(l []int) bool {
	if len(l) != callbacks || !w.isProgram(l[constructor]) {
		return false
	}
	for _, n := range l {
		if n != 0 && !w.isProgram(n) {
			return false
		}
	}
	return true
}

func (w *World) task(c api.Command) (answer, api.Errno) {
	if !w.isProgram(c.M) {
		return answer{}, api.ErrRange
	}
	return number(0, w.loop.Task(c.N, c.M))
}

func (w *World) micro(c api.Command) (answer, api.Errno) {
	if !w.isProgram(c.M) {
		return answer{}, api.ErrRange
	}
	return number(0, w.loop.Micro(c.M))
}

func (w *World) timer(c api.Command) (answer, api.Errno) {
	if !w.isProgram(c.M) {
		return answer{}, api.ErrRange
	}
	return number(w.loop.After(int64(c.N), w.nest, c.M))
}

func (w *World) clear(c api.Command) (answer, api.Errno) {
	return number(counted(w.loop.Clear(c.A)), api.OK)
}

func (w *World) tick(c api.Command) (answer, api.Errno) {
	if w.nest > 0 {
		return answer{}, api.ErrState
	}
	return number(w.loop.Advance(int64(c.N)))
}

func (w *World) turn(c api.Command) (answer, api.Errno) {
	if w.nest > 0 {
		return answer{}, api.ErrState
	}
	turn := w.loop.Next(c.N)
	if turn.Kind != api.TurnTask {
		return answer{}, api.OK
	}
	w.call(turn.Id, cause{api.BecauseTask, turn.Source, 0})
	return number(1, api.OK)
}
