package listen_test

import (
	"math"
	"slices"
	"testing"

	"canopy/api"
	"canopy/listen"
	"canopy/sample"
)

// notRight are listeners that are not right, each for one reason.
func notRight() map[string]api.Listeners {
	two := of(9, 3, 5)
	many := most()
	many.List = append(many.List, api.Listener{Id: many.Next, Node: 1, Type: "x", Callback: 1, Passive: api.PassiveOn})
	many.Next++
	return map[string]api.Listeners{
		"Next below 0":         {Next: -1},
		"Next beyond":          {Next: api.MaxIds + 1},
		"Next far beyond":      {Next: math.MaxInt},
		"Next 0 of some":       of(0, 1),
		"Next 0, an Id of 0":   of(0, 0),
		"an Id of 0":           of(9, 0, 3),
		"an Id below 0":        of(9, -1, 3),
		"an Id of Next":        of(9, 3, 9),
		"an Id beyond Next":    of(9, 3, 10),
		"one Id of two":        of(9, 3, 3),
		"Ids that fall":        of(9, 5, 3),
		"Ids that fall later":  of(9, 3, 5, 4),
		"too many":             many,
		"no callback":          with(two, 1, func(x *api.Listener) { x.Callback = 0 }),
		"no node":              with(two, 1, func(x *api.Listener) { x.Node = 0 }),
		"a node below 0":       with(two, 0, func(x *api.Listener) { x.Node = -1 }),
		"a type too long":      with(two, 1, func(x *api.Listener) { x.Type = words(api.MaxName + 1) }),
		"passive not said":     with(two, 1, func(x *api.Listener) { x.Passive = api.PassiveNone }),
		"no way to be passive": with(two, 0, func(x *api.Listener) { x.Passive = api.PassiveCount }),
		"far from passive":     with(two, 0, func(x *api.Listener) { x.Passive = 255 }),
		"two that are alike":   with(two, 1, func(x *api.Listener) { x.Callback = 1 }),
		"alike, but for the rest": with(of(9, 1, 2, 3), 2, func(x *api.Listener) {
			x.Callback, x.Once, x.Signal, x.Passive = 1, true, 7, api.PassiveOn
		}),
	}
}

// 21.1: a list that is not right is refused by each call, ahead of all else.
func TestNotRight(t *testing.T) {
	none := api.Listeners{}
	for what, l := range notRight() {
		if why := listen.Check(l); why != api.ErrRange {
			t.Errorf("%s: Check: error %d", what, why)
		}
		for _, x := range []api.Listener{{Node: 1, Type: "x", Callback: 1}, {Type: words(api.MaxName + 1)}, {Passive: 9}, {Node: 2}} {
			for _, aborted := range []bool{false, true} {
				if m, id, why := listen.Add(l, x, false, aborted); why != api.ErrRange || id != 0 || !same(m, none) {
					t.Errorf("%s: Add: %v, %d, error %d", what, m, id, why)
				}
			}
		}
		if m, id, why := listen.Remove(l, 2, "x", 1, false); why != api.ErrRange || id != 0 || !same(m, none) {
			t.Errorf("%s: Remove: %v, %d, error %d", what, m, id, why)
		}
		for _, id := range []int{0, 3, 99} {
			if m, is, why := listen.Expire(l, id); why != api.ErrRange || is || !same(m, none) {
				t.Errorf("%s: Expire: %v, %v, error %d", what, m, is, why)
			}
			if m, why := listen.Abort(l, id); why != api.ErrRange || !same(m, none) {
				t.Errorf("%s: Abort: %v, error %d", what, m, why)
			}
		}
		for phase := range api.Phase(6) {
			if got, why := listen.Due(l, 2, "x", phase, false); why != api.ErrRange || got != nil {
				t.Errorf("%s: Due: %v, error %d", what, got, why)
			}
		}
	}
}

// 21.2: a type too long, then no node or no way to be passive, then nothing to add, then too many.
func TestAddErrors(t *testing.T) {
	long := words(api.MaxName + 1)
	full, spent := most(), of(api.MaxIds, 1)
	for what, l := range map[string]api.Listeners{"few": of(9, 3, 5), "none at all": {}, "too many": full, "no Id is left": spent} {
		for _, x := range []struct {
			x  api.Listener
			no api.Errno
		}{
			{api.Listener{Node: 2, Type: long, Callback: 1}, api.ErrLong},
			{api.Listener{Node: 2, Type: long}, api.ErrLong},
			{api.Listener{Type: long, Callback: 1}, api.ErrLong},
			{api.Listener{Node: 2, Type: long, Callback: 1, Passive: 3}, api.ErrLong},
			{api.Listener{Type: "x", Callback: 1}, api.ErrRange},
			{api.Listener{Node: -1, Type: "x", Callback: 1}, api.ErrRange},
			{api.Listener{Node: math.MinInt, Type: words(api.MaxName)}, api.ErrRange},
			{api.Listener{Node: 2, Type: "x", Callback: 1, Passive: api.PassiveCount}, api.ErrRange},
			{api.Listener{Node: 2, Type: "x", Passive: 255}, api.ErrRange},
		} {
			for _, aborted := range []bool{false, true} {
				if m, id, why := listen.Add(l, x.x, true, aborted); why != x.no || id != 0 || !same(m, api.Listeners{}) {
					t.Errorf("%s: Add of node %d, callback %d, passive %d: %d, error %d; want %d", what, x.x.Node, x.x.Callback, x.x.Passive, id, why, x.no)
				}
			}
		}
	}
	for what, l := range map[string]api.Listeners{"too many": full, "no Id is left": spent, "nor of none": {Next: api.MaxIds}} {
		if m, id, why := listen.Add(l, api.Listener{Node: 9, Type: "x", Callback: 1}, false, false); why != api.ErrMany || id != 0 || !same(m, api.Listeners{}) {
			t.Errorf("%s: %d, error %d", what, id, why)
		}
	}
}

// 21.4: a phase that is none.
func TestDueErrors(t *testing.T) {
	for _, phase := range []api.Phase{api.PhaseNone, api.PhaseBubble + 1, 255} {
		for _, l := range []api.Listeners{{}, of(9, 3, 5)} {
			for _, capture := range []bool{false, true} {
				if got, why := listen.Due(l, 2, "x", phase, capture); why != api.ErrType || got != nil {
					t.Errorf("Due at the phase %d: %v, error %d", phase, got, why)
				}
			}
		}
	}
}

// 21.5: answers are new memory, and what is handed in stays as it is, with the room behind it.
func TestNewMemory(t *testing.T) {
	was := of(9, 2, 4, 5)
	was.List[1].Signal = 3
	mark := api.Listener{Id: 999}
	for what, call := range map[string]func(l api.Listeners) api.Listeners{
		"Add": func(l api.Listeners) api.Listeners {
			m, _, _ := listen.Add(l, api.Listener{Node: 1, Callback: 1}, false, false)
			return m
		},
		"Add of nothing": func(l api.Listeners) api.Listeners {
			m, _, _ := listen.Add(l, api.Listener{Node: 1}, false, false)
			return m
		},
		"Remove":         func(l api.Listeners) api.Listeners { m, _, _ := listen.Remove(l, 2, "x", 1, false); return m },
		"Remove of none": func(l api.Listeners) api.Listeners { m, _, _ := listen.Remove(l, 2, "y", 1, false); return m },
		"Expire":         func(l api.Listeners) api.Listeners { m, _, _ := listen.Expire(l, 5); return m },
		"Expire of none": func(l api.Listeners) api.Listeners { m, _, _ := listen.Expire(l, 6); return m },
		"Abort":          func(l api.Listeners) api.Listeners { m, _ := listen.Abort(l, 3); return m },
		"Abort of none":  func(l api.Listeners) api.Listeners { m, _ := listen.Abort(l, 0); return m },
	} {
		in := sample.RoomyListeners(was)
		m := call(in)
		want := api.Listeners{List: slices.Clone(m.List), Next: m.Next}
		again := call(in)
		sample.Fill(again.List, mark)
		if !same(in, was) || slices.Contains(in.List[:cap(in.List)], mark) {
			t.Error(what, "changes what is handed in")
		}
		sample.Fill(in.List, mark)
		if len(want.List) == 0 || !same(m, want) {
			t.Error(what, "has an answer that changes with what was handed in, or with another one")
		}
	}
	in := sample.RoomyListeners(was)
	got, _ := listen.Due(in, 2, "x", api.PhaseBubble, false)
	again, _ := listen.Due(in, 2, "x", api.PhaseBubble, false)
	sample.Fill(again, 999)
	if !slices.Equal(got, []int{2, 4, 5}) || !same(in, was) {
		t.Error("Due:", got, in)
	}
}

// P1, P2: whatever is given, each call answers, and beside an error nothing else.
func TestAnything(t *testing.T) {
	d, fair := sample.NewDice(21), 0
	for range 4000 {
		l := sample.Listeners(d, d.Below(6))
		for i := range l.List {
			switch x := &l.List[i]; d.Below(12) {
			case 0:
				x.Id = d.Below(9) - 2
			case 1:
				x.Node = d.Below(3) - 1
			case 2:
				x.Passive = api.Passive(d.Below(5))
			case 3:
				x.Callback = d.Below(3) - 1
			}
		}
		l.Next += d.Below(3) - 1
		no := listen.Check(l)
		if no == api.OK {
			fair++
		}
		x := sample.Listener(d)
		m, id, why := listen.Add(l, x, d.Below(2) == 0, d.Below(2) == 0)
		n, gone, other := listen.Remove(l, x.Node, x.Type, x.Callback, x.Capture)
		o, is, third := listen.Expire(l, d.Below(9)-1)
		p, fourth := listen.Abort(l, d.Below(4))
		if why != no || other != no || third != no || fourth != no {
			t.Fatal(l, no, why, other, third, fourth)
		}
		if none := (api.Listeners{}); no != api.OK && (id != 0 || gone != 0 || is || !same(m, none) || !same(n, none) || !same(o, none) || !same(p, none)) {
			t.Fatal("beside an error:", m, id, n, gone, o, is, p)
		}
		for _, l := range []api.Listeners{m, n, o, p} {
			fine(t, listen.Check(l))
		}
	}
	if fair < 500 || fair > 3500 {
		t.Error("too few of a kind:", fair)
	}
}
