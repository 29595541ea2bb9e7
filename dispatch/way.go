package dispatch

import (
	"cmp"
	"slices"

	"canopy/api"
	"canopy/listen"
)

// way is a dispatch on its way, beside the listeners that are left; both are right, and its own.
type way struct {
	run  api.Run
	left api.Listeners
}

// search finds the Ids of the listeners of a node.
type search func(node int, phase api.Phase, capturing bool) []int

func wayOf(l api.Listeners, r api.Run) *way {
	return &way{copied(r), api.Listeners{List: slices.Clone(l.List), Next: l.Next}}
}

// calls are all that are still to come; whatever is done to w meanwhile counts for those behind.
func (w *way) calls(yield func(api.Call) bool) {
	for c, is := w.next(); is && yield(c); c, is = w.next() {
	}
}

func (w *way) next() (api.Call, bool) {
	w.run.Event.Passive = false
	if w.run.Event.StopNow {
		w.run.Due = nil
	}
	due := func(node int, phase api.Phase, capturing bool) []int {
		return dueAt(w.left, node, w.run.Event.Type, phase, capturing)
	}
	c, is := w.called()
	for !is && w.run.Turn < 2*len(w.run.Path) {
		w.begin(due)
		c, is = w.called()
	}
	return c, is
}

// called calls the first one that is due and still there.
func (w *way) called() (api.Call, bool) {
	for len(w.run.Due) > 0 {
		id := w.run.Due[0]
		w.run.Due = w.run.Due[1:]
		if at, is := w.place(id); is {
			return w.call(w.left.List[at]), true
		}
	}
	return api.Call{}, false
}

func (w *way) call(x api.Listener) api.Call {
	if x.Once {
		w.expire(x.Id)
	}
	w.run.Event.Passive = x.Passive == api.PassiveOn
	return api.Call{Id: x.Id, Callback: x.Callback, Step: goOf(w.run.Path, w.run.Turn-1).step}
}

// begin begins the next go; due finds the listeners that are called there.
func (w *way) begin(due search) {
	g, e := goOf(w.run.Path, w.run.Turn), &w.run.Event
	w.run.Turn++
	if e.Stop || g.phase == api.PhaseBubble && !e.Bubbles {
		return
	}
	s := w.run.Path[g.step]
	e.Phase, e.Current, e.Target, e.Related = g.phase, s.Item, targetAt(w.run.Path, g.step), s.Related
	w.run.Due = due(s.Item, g.phase, g.capturing)
}

// dueAt asks listen.Due, which checks all listeners anew, only where there are some: most steps of a long path have none.
func dueAt(l api.Listeners, node int, kind string, phase api.Phase, capturing bool) []int {
	if !listen.Has(l, node, kind) {
		return nil
	}
	ids, _ := listen.Due(l, node, kind, phase, capturing)
	return ids
}

// place is where the listener of an Id stands: Ids rise.
func (w *way) place(id int) (int, bool) {
	return slices.BinarySearchFunc(w.left.List, id, func(x api.Listener, id int) int { return cmp.Compare(x.Id, id) })
}

// expire takes away the listener of an Id, if it is there.
func (w *way) expire(id int) {
	if _, is := w.place(id); is {
		w.left, _, _ = listen.Expire(w.left, id)
	}
}

// leg is a go over a step of a path.
type leg struct {
	step      int
	capturing bool
	phase     api.Phase
}

func goOf(path []api.Step, k int) leg {
	n := len(path)
	g := leg{step: k - n, phase: api.PhaseBubble}
	if k < n {
		g = leg{step: n - 1 - k, capturing: true, phase: api.PhaseCapture}
	}
	if path[g.step].Target != 0 {
		g.phase = api.PhaseTarget
	}
	return g
}

// targetAt is the target as it is seen at a step.
func targetAt(path []api.Step, step int) int {
	for _, s := range slices.Backward(path[:step+1]) {
		if s.Target != 0 {
			return s.Target
		}
	}
	return 0
}
