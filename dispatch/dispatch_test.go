package dispatch_test

import (
	"fmt"
	"slices"
	"strings"
	"testing"

	"canopy/api"
	"canopy/dispatch"
)

// of are listeners of the type x, by rising Ids; each is its own callback, 10 more than its Id, unless it says another one.
func of(list ...api.Listener) api.Listeners {
	for i := range list {
		x := &list[i]
		x.Id, x.Type = i+1, "x"
		if x.Callback == 0 {
			x.Callback = x.Id + 10
		}
		if x.Passive == api.PassiveNone {
			x.Passive = api.PassiveOff
		}
	}
	return api.Listeners{List: list, Next: len(list) + 1}
}

func at(node int) api.Listener { return api.Listener{Node: node} }

func captures(node int) api.Listener { return api.Listener{Node: node, Capture: true} }

// steps is a path of these nodes, the target first.
func steps(nodes ...int) []api.Step {
	var l []api.Step
	for i, n := range nodes {
		l = append(l, api.Step{Item: n})
		if i == 0 {
			l[0].Target = n
		}
	}
	return l
}

func bubbling() api.Event { return api.Event{Type: "x", Bubbles: true, Cancelable: true} }

// written has each call as its Id and its step.
func written(calls []api.Call) string {
	var s []string
	for _, c := range calls {
		s = append(s, fmt.Sprintf("%d@%d", c.Id, c.Step))
	}
	return strings.Join(s, " ")
}

func sameRun(a, b api.Run) bool {
	return a.Event == b.Event && a.Turn == b.Turn && a.Clears == b.Clears && slices.Equal(a.Path, b.Path) && slices.Equal(a.Due, b.Due)
}

func sameList(a, b api.Listeners) bool { return a.Next == b.Next && slices.Equal(a.List, b.List) }

func wantCalls(t *testing.T, what string, l api.Listeners, path []api.Step, e api.Event, does []api.Effects, want string) {
	t.Helper()
	calls, _, _, _, why := dispatch.All(l, path, e, false, does)
	if why != api.OK || written(calls) != want {
		t.Errorf("%s: %s, error %d; want %s", what, written(calls), why, want)
	}
}

func stops(callback int, does ...api.Effect) []api.Effects {
	return []api.Effects{{Callback: callback, Does: does}}
}

// The chapter's example.
func TestExample(t *testing.T) {
	l := of(captures(1), at(3), at(1))
	path := steps(3, 2, 1)
	wantCalls(t, "bubbles", l, path, bubbling(), nil, "1@2 2@0 3@2")
	wantCalls(t, "does not", l, path, api.Event{Type: "x"}, nil, "1@2 2@0")
	wantCalls(t, "stopped", l, path, bubbling(), stops(12, api.EffectStop), "1@2 2@0")
	if r, why := dispatch.Begin(path, api.Event{Dispatching: true}, false); why != api.ErrState || !sameRun(r, api.Run{}) {
		t.Error("Begin of what is Dispatching:", r, why)
	}
}

// P22.1: what a dispatch begins with: all of the event but what is said.
func TestBegin(t *testing.T) {
	whole := api.Event{
		Type: strings.Repeat("a", api.MaxName), Bubbles: true, Cancelable: true, Composed: true, Canceled: true, Stop: true, StopNow: true,
		Passive: true, Phase: api.PhaseBubble, Target: 7, Related: 8, Current: 9,
	}
	for _, path := range [][]api.Step{nil, steps(1), steps(3, 2, 1), make([]api.Step, api.MaxList)} {
		for _, e := range []api.Event{{}, {Type: "x"}, whole} {
			for _, clears := range []bool{false, true} {
				want := api.Run{Event: e, Path: path, Clears: clears}
				want.Event.Dispatching, want.Event.Passive, want.Event.Phase, want.Event.Current = true, false, api.PhaseNone, 0
				r, why := dispatch.Begin(path, e, clears)
				if why != api.OK || !sameRun(r, want) {
					t.Errorf("Begin of %v: %v, error %d", e, r.Event, why)
				}
				if dispatch.Ended(r) != (len(path) == 0) {
					t.Error("Ended at the beginning of", len(path))
				}
			}
		}
	}
}

// P22.1: what has ended.
func TestEnded(t *testing.T) {
	on := api.Event{Dispatching: true}
	for _, x := range []struct {
		r    api.Run
		want bool
	}{
		{api.Run{}, false}, {api.Run{Event: on}, true}, {api.Run{Event: on, Turn: 1}, false}, {api.Run{Event: on, Due: []int{1}}, false},
		{api.Run{Event: on, Path: steps(1)}, false}, {api.Run{Event: on, Path: steps(1), Turn: 1}, false},
		{api.Run{Event: on, Path: steps(1), Turn: 2}, true}, {api.Run{Event: on, Path: steps(1), Turn: 3}, false},
		{api.Run{Event: on, Path: steps(1), Turn: 2, Due: []int{1}}, false}, {api.Run{Event: on, Path: steps(1), Turn: 2, Due: []int{}}, true},
		{api.Run{Path: steps(1), Turn: 2}, false}, {api.Run{Event: on, Path: steps(1), Turn: -1}, false},
		{api.Run{Event: on, Path: make([]api.Step, api.MaxList), Turn: 2 * api.MaxList}, true},
		{api.Run{Event: on, Path: make([]api.Step, api.MaxList+1), Turn: 2*api.MaxList + 2}, false},
	} {
		if got := dispatch.Ended(x.r); got != x.want {
			t.Errorf("Ended of %d steps, turn %d, due %v: %v", len(x.r.Path), x.r.Turn, x.r.Due, got)
		}
	}
}

// P22.2: a path's goes, one after another, as the event tells them.
func TestGoes(t *testing.T) {
	l := of(at(1), captures(1), at(2), captures(2), at(3), captures(3), at(4), captures(4))
	path := []api.Step{{Item: 4, Related: 40}, {Item: 3, Target: 33, Related: 30}, {Item: 2, Related: 20}, {Item: 1, Target: 11}}
	r, why := dispatch.Begin(path, bubbling(), false)
	if why != api.OK {
		t.Fatal(why)
	}
	for i, want := range []struct {
		call                     api.Call
		phase                    api.Phase
		current, target, related int
	}{
		{api.Call{Id: 2, Callback: 12, Step: 3}, api.PhaseTarget, 1, 11, 0},
		{api.Call{Id: 4, Callback: 14, Step: 2}, api.PhaseCapture, 2, 33, 20},
		{api.Call{Id: 6, Callback: 16, Step: 1}, api.PhaseTarget, 3, 33, 30},
		{api.Call{Id: 8, Callback: 18, Step: 0}, api.PhaseCapture, 4, 0, 40},
		{api.Call{Id: 7, Callback: 17, Step: 0}, api.PhaseBubble, 4, 0, 40},
		{api.Call{Id: 5, Callback: 15, Step: 1}, api.PhaseTarget, 3, 33, 30},
		{api.Call{Id: 3, Callback: 13, Step: 2}, api.PhaseBubble, 2, 33, 20},
		{api.Call{Id: 1, Callback: 11, Step: 3}, api.PhaseTarget, 1, 11, 0},
	} {
		next, m, c, is, why := dispatch.Next(l, r)
		e := next.Event
		if why != api.OK || !is || c != want.call || next.Turn != i+1 || len(next.Due) != 0 || !sameList(m, l) || !slices.Equal(next.Path, path) {
			t.Fatalf("go %d: %v, %v, error %d: %v", i, c, is, why, next)
		}
		if e.Phase != want.phase || e.Current != want.current || e.Target != want.target || e.Related != want.related || !e.Dispatching {
			t.Errorf("go %d: %v", i, e)
		}
		r = next
	}
	last, m, c, is, why := dispatch.Next(l, r)
	if why != api.OK || is || c != (api.Call{}) || !sameRun(last, r) || !sameList(m, l) || !dispatch.Ended(last) {
		t.Error("behind all goes:", last, c, is, why)
	}
}

// P22.2: a go that is passed over leaves no trace but that it has begun.
func TestPassedOver(t *testing.T) {
	l := of(captures(3), captures(1), at(3), at(2), at(1))
	for what, x := range map[string]struct {
		e    api.Event
		path []api.Step
		want string
	}{
		"it does not bubble":      {api.Event{Type: "x"}, steps(3, 2, 1), "2@2 1@0 3@0"},
		"all are targets":         {api.Event{Type: "x"}, []api.Step{{Item: 3, Target: 3}, {Item: 2, Target: 2}, {Item: 1, Target: 1}}, "2@2 1@0 3@0 4@1 5@2"},
		"none is one":             {api.Event{Type: "x"}, []api.Step{{Item: 3}, {Item: 2}, {Item: 1}}, "2@2 1@0"},
		"none is one, it bubbles": {api.Event{Type: "x", Bubbles: true}, []api.Step{{Item: 3}, {Item: 2}, {Item: 1}}, "2@2 1@0 3@0 4@1 5@2"},
		"a target far below 0":    {api.Event{Type: "x"}, []api.Step{{Item: 3, Target: -5}}, "1@0 3@0"},
		"stopped ahead":           {api.Event{Type: "x", Bubbles: true, Stop: true}, steps(3, 2, 1), ""},
		"stopped ahead, and now":  {api.Event{Type: "x", Bubbles: true, Stop: true, StopNow: true}, steps(3, 2, 1), ""},
		"canceled ahead":          {api.Event{Type: "x", Bubbles: true, Canceled: true}, steps(3, 2, 1), "2@2 1@0 3@0 4@1 5@2"},
		"of another type":         {api.Event{Type: "y", Bubbles: true}, steps(3, 2, 1), ""},
		"of no step":              {bubbling(), nil, ""},
		"of one step":             {bubbling(), steps(3), "1@0 3@0"},
		"one node in two steps":   {bubbling(), steps(3, 3), "1@1 1@0 3@0 3@1"},
		"nodes that are none":     {bubbling(), steps(0, -1, 99), ""},
	} {
		wantCalls(t, what, l, x.path, x.e, nil, x.want)
	}
	r := api.Run{Path: steps(3, 2, 1), Event: api.Event{Type: "x", Dispatching: true, Phase: 77, Current: 7, Target: 8, Related: 9}, Turn: 4}
	for what, stop := range map[string]bool{"it does not bubble": false, "it is stopped": true} {
		r.Event.Stop, r.Event.Bubbles = stop, stop
		next, _, c, is, why := dispatch.Next(l, r)
		want := r
		want.Turn = 6
		if why != api.OK || is || c != (api.Call{}) || !sameRun(next, want) {
			t.Errorf("%s: %v, %v, error %d", what, next, is, why)
		}
	}
}

// P22.2: at one node those that are due are called one by one; those that are gone are left out, those that came are not asked.
func TestDue(t *testing.T) {
	l := of(at(1), at(1), at(1), at(1), at(2))
	r := api.Run{Path: steps(1, 2), Event: bubbling(), Turn: 3, Due: []int{4, 99, 2, 5, 0, -1, 2, 1}, Clears: true}
	r.Event.Dispatching, r.Event.Passive = true, true
	r.Event.Phase, r.Event.Target, r.Event.Related, r.Event.Current = 44, 4, 5, 6
	l.List = slices.Delete(l.List, 0, 1)
	want := r
	want.Event.Passive = false
	for _, x := range []struct {
		id   int
		left []int
	}{{4, []int{99, 2, 5, 0, -1, 2, 1}}, {2, []int{5, 0, -1, 2, 1}}, {5, []int{0, -1, 2, 1}}, {2, []int{1}}} {
		next, m, c, is, why := dispatch.Next(l, r)
		want.Due = x.left
		if why != api.OK || !is || c != (api.Call{Id: x.id, Callback: x.id + 10, Step: 0}) || !sameRun(next, want) || !sameList(m, l) {
			t.Fatalf("due %v: %v, %v, error %d: %v", r.Due, c, is, why, next)
		}
		r = next
	}
	next, _, c, is, why := dispatch.Next(l, r)
	if why != api.OK || !is || c != (api.Call{Id: 5, Callback: 15, Step: 1}) || next.Turn != 4 || len(next.Due) != 0 || next.Event.Current != 2 {
		t.Errorf("the next go: %v, %v, error %d: %v", c, is, why, next)
	}
	end, _, c, is, why := dispatch.Next(l, next)
	if why != api.OK || is || c != (api.Call{}) || !dispatch.Ended(end) {
		t.Errorf("the end: %v, %v, error %d: %v", c, is, why, end)
	}
}

// P22.2: StopNow leaves none that is due; without Stop the next go begins all the same.
func TestStopNowAhead(t *testing.T) {
	l := of(captures(2), captures(2), at(1), at(1), at(2), at(2))
	r := api.Run{Path: steps(1, 2), Event: bubbling(), Turn: 3, Due: []int{3, 4}}
	r.Event.Dispatching, r.Event.StopNow = true, true
	next, _, c, is, why := dispatch.Next(l, r)
	if why != api.OK || !is || c.Id != 5 || next.Turn != 4 || !slices.Equal(next.Due, []int{6}) {
		t.Errorf("%v, %v, error %d: %v", c, is, why, next)
	}
	next, _, _, is, why = dispatch.Next(l, next)
	if why != api.OK || is || !dispatch.Ended(next) || !next.Event.StopNow {
		t.Errorf("%v, error %d: %v", is, why, next)
	}
	r.Event.Stop = true
	if next, _, _, is, why := dispatch.Next(l, r); why != api.OK || is || !dispatch.Ended(next) {
		t.Errorf("with Stop: %v, error %d: %v", is, why, next)
	}
	e := bubbling()
	e.StopNow = true
	wantCalls(t, "of each go the first one", l, steps(1, 2), e, nil, "1@1 3@0 5@1")
}

// P22.2: one that is Once is gone when it is called; that one is passive is known while it is called.
func TestOnceAndPassive(t *testing.T) {
	l := of(
		api.Listener{Node: 1, Once: true}, api.Listener{Node: 1, Passive: api.PassiveOn},
		api.Listener{Node: 1, Once: true, Passive: api.PassiveOn}, at(1), api.Listener{Node: 1, Once: true, Capture: true},
	)
	r, why := dispatch.Begin(steps(1), bubbling(), false)
	for _, x := range []struct {
		id      int
		passive bool
		left    int
	}{{5, false, 4}, {1, false, 3}, {2, true, 3}, {3, true, 2}, {4, false, 2}} {
		var c api.Call
		var is bool
		r, l, c, is, why = dispatch.Next(l, r)
		if why != api.OK || !is || c.Id != x.id || r.Event.Passive != x.passive || len(l.List) != x.left || l.Next != 6 {
			t.Fatalf("%v, %v, error %d: %v, %v", c, is, why, r.Event, l)
		}
		prevented, why := dispatch.Act(r, api.EffectPrevent)
		if why != api.OK || prevented.Event.Canceled == x.passive {
			t.Errorf("%d prevents: %v, error %d", c.Id, prevented.Event, why)
		}
	}
	if last, m, _, is, why := dispatch.Next(l, r); why != api.OK || is || last.Event.Passive || !sameList(m, l) {
		t.Error("at the end:", last, m, is, why)
	}
	r.Event.Passive = true
	if last, _, _, is, _ := dispatch.Next(l, r); is || last.Event.Passive {
		t.Error("at the end, passive ahead:", last.Event)
	}
}

// P22.3: what each effect does, and that it does nothing else.
func TestAct(t *testing.T) {
	for mask := range 32 {
		e := api.Event{Type: "x", Dispatching: true, Target: 1, Related: 2, Current: 3, Phase: api.PhaseBubble}
		e.Stop, e.StopNow, e.Canceled, e.Cancelable, e.Passive = mask&1 != 0, mask&2 != 0, mask&4 != 0, mask&8 != 0, mask&16 != 0
		r := api.Run{Event: e, Path: steps(1, 2), Turn: 2, Due: []int{3, 1}, Clears: true}
		for does := range api.EffectCount {
			want := r
			switch does {
			case api.EffectStop:
				want.Event.Stop = true
			case api.EffectStopNow:
				want.Event.Stop, want.Event.StopNow = true, true
			case api.EffectPrevent:
				if e.Cancelable && !e.Passive {
					want.Event.Canceled = true
				}
			}
			if got, why := dispatch.Act(r, does); why != api.OK || !sameRun(got, want) {
				t.Errorf("Act of %d on %v: %v, error %d", does, e, got.Event, why)
			}
		}
	}
}

// P22.4: what the event is behind the end.
func TestEnd(t *testing.T) {
	e := api.Event{
		Type: "x", Bubbles: true, Cancelable: true, Composed: true, Stop: true, StopNow: true, Passive: true, Dispatching: true,
		Phase: api.PhaseBubble, Target: 1, Related: 2, Current: 3,
	}
	for _, canceled := range []bool{false, true} {
		for _, clears := range []bool{false, true} {
			for _, path := range [][]api.Step{nil, steps(1, 2)} {
				e.Canceled = canceled
				want := api.Event{Type: "x", Bubbles: true, Cancelable: true, Composed: true, Canceled: canceled, Target: 1, Related: 2}
				if clears {
					want.Target, want.Related = 0, 0
				}
				got, fine, why := dispatch.End(api.Run{Event: e, Path: path, Turn: 2 * len(path), Clears: clears})
				if why != api.OK || got != want || fine == canceled {
					t.Errorf("End of %d steps, clears %v: %v, %v, error %d", len(path), clears, got, fine, why)
				}
			}
		}
	}
}

// P22.5: what callbacks do: the first entry of each counts.
func TestAll(t *testing.T) {
	l := of(captures(2), at(1), api.Listener{Node: 1, Callback: 7}, at(1), api.Listener{Node: 2, Callback: 7}, at(2))
	path := steps(1, 2)
	none, both := api.EffectNone, []api.Effect{api.EffectPrevent, api.EffectStop}
	for what, x := range map[string]struct {
		does []api.Effects
		want string
		fine bool
	}{
		"nothing":                  {nil, "1@1 2@0 3@0 4@0 5@1 6@1", true},
		"stop":                     {stops(11, api.EffectStop), "1@1", true},
		"stop at the target":       {stops(12, api.EffectStop), "1@1 2@0 3@0 4@0", true},
		"stop now":                 {stops(12, api.EffectStopNow), "1@1 2@0", true},
		"stop and prevent":         {stops(12, both...), "1@1 2@0 3@0 4@0", false},
		"each one more than once":  {stops(7, none, none, both[1], both[0], both[1], both[0], none), "1@1 2@0 3@0 4@0", false},
		"no callback does it":      {stops(99, both...), "1@1 2@0 3@0 4@0 5@1 6@1", true},
		"the first entry counts":   {append(stops(7), stops(7, both...)...), "1@1 2@0 3@0 4@0 5@1 6@1", true},
		"the first, not the last":  {append(stops(7, both...), stops(7)...), "1@1 2@0 3@0 4@0", false},
		"one of two calls it":      {stops(7, api.EffectPrevent), "1@1 2@0 3@0 4@0 5@1 6@1", false},
		"gone while it is due":     {[]api.Effects{{Callback: 12, Gone: []int{4}}}, "1@1 2@0 3@0 5@1 6@1", true},
		"gone ahead of its go":     {[]api.Effects{{Callback: 11, Gone: []int{6, 3}}}, "1@1 2@0 4@0 5@1", true},
		"gone behind its call":     {[]api.Effects{{Callback: 14, Gone: []int{1, 2, 4}}}, "1@1 2@0 3@0 4@0 5@1 6@1", true},
		"gone of none":             {[]api.Effects{{Callback: 11, Gone: []int{0, -1, 7, 99, 1 << 50}}}, "1@1 2@0 3@0 4@0 5@1 6@1", true},
		"gone, in the second":      {[]api.Effects{{Callback: 11}, {Callback: 11, Gone: []int{2}}}, "1@1 2@0 3@0 4@0 5@1 6@1", true},
		"both of a callback go":    {[]api.Effects{{Callback: 7, Gone: []int{3, 5}}}, "1@1 2@0 3@0 4@0 6@1", true},
		"gone, then stopped":       {[]api.Effects{{Callback: 11, Gone: []int{3}}, {Callback: 12, Does: both[1:]}}, "1@1 2@0 4@0", true},
		"effects of no name do it": {[]api.Effects{{Does: both, Gone: []int{1, 2, 3}}}, "1@1 2@0 3@0 4@0 5@1 6@1", true},
	} {
		calls, _, e, fine, why := dispatch.All(l, path, bubbling(), false, x.does)
		if why != api.OK || written(calls) != x.want || fine != x.fine || e.Canceled == fine {
			t.Errorf("%s: %s, %v, error %d", what, written(calls), fine, why)
		}
		if e.Dispatching || e.Stop || e.StopNow || e.Passive || e.Phase != api.PhaseNone || e.Current != 0 {
			t.Errorf("%s: the event is not at its end: %v", what, e)
		}
	}
	calls, left, _, _, _ := dispatch.All(l, path, bubbling(), false, []api.Effects{{Callback: 7, Gone: []int{2, 5, 9}}})
	if want := slices.Delete(slices.Clone(l.List), 1, 2); len(calls) != 5 || left.Next != l.Next || !slices.Equal(left.List, slices.Delete(want, 3, 4)) {
		t.Error("who is left:", left)
	}
}

// P22.5: what is told last, and the event at the end.
func TestAllAtTheEnd(t *testing.T) {
	l := of(api.Listener{Node: 1, Passive: api.PassiveOn}, api.Listener{Node: 2, Once: true})
	prevents := stops(11, api.EffectPrevent)
	also := append(stops(12, api.EffectPrevent), prevents...)
	for what, x := range map[string]struct {
		e    api.Event
		does []api.Effects
		fine bool
	}{
		"none prevents":       {bubbling(), nil, true},
		"a passive one":       {bubbling(), prevents, true},
		"another one":         {bubbling(), also, false},
		"not cancelable":      {api.Event{Type: "x", Bubbles: true}, also, true},
		"canceled ahead":      {api.Event{Type: "x", Bubbles: true, Canceled: true}, nil, false},
		"it does not get up":  {api.Event{Type: "x", Cancelable: true}, also, true},
		"passive ahead":       {api.Event{Type: "x", Bubbles: true, Cancelable: true, Passive: true}, also, false},
		"canceled and passed": {api.Event{Type: "y", Canceled: true}, also, false},
	} {
		for _, clears := range []bool{false, true} {
			path := steps(1, 2)
			path[1].Related = 9
			calls, left, e, fine, why := dispatch.All(l, path, x.e, clears, x.does)
			want := x.e
			want.Passive, want.Canceled, want.Target, want.Related = false, !x.fine, 1, 0
			if x.e.Bubbles {
				want.Related = 9
			}
			if clears {
				want.Target, want.Related = 0, 0
			}
			if why != api.OK || fine != x.fine || e != want {
				t.Errorf("%s: %v, %v, error %d; want %v", what, e, fine, why, want)
			}
			if called := x.e.Bubbles; len(left.List) != 2 && !called || len(left.List) != 1 && called {
				t.Errorf("%s: %v, who is left: %v", what, written(calls), left)
			}
		}
	}
}
