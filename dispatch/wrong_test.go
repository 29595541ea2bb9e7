package dispatch_test

import (
	"math"
	"slices"
	"strings"
	"testing"
	"time"

	"canopy/api"
	"canopy/dispatch"
	"canopy/sample"
)

func noListeners() map[string]api.Listeners {
	return map[string]api.Listeners{
		"Next below 0": {Next: -1}, "Next beyond": {Next: api.MaxIds + 1}, "some, Next 0": {List: of(at(1)).List},
		"two alike": {List: append(of(at(1)).List, api.Listener{Id: 2, Node: 1, Type: "x", Callback: 11, Passive: api.PassiveOn}), Next: 3},
		"too many":  {List: make([]api.Listener, api.MaxListeners+1), Next: 1},
	}
}

// notRight are dispatches that are not right, each for one reason.
func notRight() map[string]api.Run {
	on := api.Event{Type: "x", Bubbles: true, Dispatching: true}
	return map[string]api.Run{
		"nothing":           {},
		"too many steps":    {Event: on, Path: make([]api.Step, api.MaxList+1)},
		"it is not on":      {Event: bubbling(), Path: steps(1), Turn: 1},
		"a turn below 0":    {Event: on, Path: steps(1), Turn: -1},
		"a turn too far":    {Event: on, Path: steps(1), Turn: 3},
		"a turn of none":    {Event: on, Turn: 1},
		"a turn far beyond": {Event: on, Path: steps(1), Turn: math.MaxInt},
		"a turn far below":  {Event: on, Path: steps(1), Turn: math.MinInt},
		"due at the start":  {Event: on, Path: steps(1), Due: []int{1}},
		"due, of no path":   {Event: on, Due: []int{1}},
		"too many are due":  {Event: on, Path: steps(1), Turn: 1, Due: make([]int, api.MaxListeners+1)},
	}
}

// P22.1: too many steps, then a type too long, then an event that is Dispatching.
func TestBeginErrors(t *testing.T) {
	many, long := make([]api.Step, api.MaxList+1), strings.Repeat("a", api.MaxName+1)
	for _, x := range []struct {
		path []api.Step
		e    api.Event
		no   api.Errno
	}{
		{many, api.Event{}, api.ErrMany}, {many, api.Event{Type: long}, api.ErrMany}, {many, api.Event{Dispatching: true}, api.ErrMany},
		{many, api.Event{Type: long, Dispatching: true}, api.ErrMany},
		{nil, api.Event{Type: long}, api.ErrLong}, {steps(1), api.Event{Type: long, Dispatching: true}, api.ErrLong},
		{many[1:], api.Event{Type: long}, api.ErrLong},
		{nil, api.Event{Dispatching: true}, api.ErrState}, {many[1:], api.Event{Type: long[1:], Dispatching: true}, api.ErrState},
	} {
		if r, why := dispatch.Begin(x.path, x.e, true); why != x.no || !sameRun(r, api.Run{}) {
			t.Errorf("Begin of %d steps, %v: error %d; want %d", len(x.path), x.e.Dispatching, why, x.no)
		}
		for what, l := range noListeners() {
			calls, m, e, fine, why := dispatch.All(l, x.path, x.e, true, make([]api.Effects, api.MaxList+1))
			if why != x.no || calls != nil || !sameList(m, api.Listeners{}) || e != (api.Event{}) || fine {
				t.Errorf("All of %s, %d steps: error %d; want %d", what, len(x.path), why, x.no)
			}
		}
	}
}

// P22.2 to P22.4: listeners that are not right, then a dispatch that is not right, then the rest.
func TestNotRight(t *testing.T) {
	for what, r := range notRight() {
		for _, l := range []api.Listeners{{}, of(at(1), captures(1))} {
			if s, m, c, is, why := dispatch.Next(l, r); why != api.ErrState || is || c != (api.Call{}) || !sameRun(s, api.Run{}) || !sameList(m, api.Listeners{}) {
				t.Errorf("%s: Next: %v, %v, error %d", what, c, is, why)
			}
		}
		for no, l := range noListeners() {
			if s, m, c, is, why := dispatch.Next(l, r); why != api.ErrRange || is || c != (api.Call{}) || !sameRun(s, api.Run{}) || !sameList(m, api.Listeners{}) {
				t.Errorf("%s, %s: Next: %v, %v, error %d", what, no, c, is, why)
			}
		}
		for _, does := range []api.Effect{api.EffectNone, api.EffectStop, api.EffectPrevent, api.EffectCount, 255} {
			if s, why := dispatch.Act(r, does); why != api.ErrState || !sameRun(s, api.Run{}) {
				t.Errorf("%s: Act of %d: error %d", what, does, why)
			}
		}
		if e, fine, why := dispatch.End(r); why != api.ErrState || fine || e != (api.Event{}) {
			t.Errorf("%s: End: %v, error %d", what, fine, why)
		}
		if dispatch.Ended(r) {
			t.Error(what, "has ended")
		}
	}
	r, _ := dispatch.Begin(steps(1), bubbling(), false)
	for no, l := range noListeners() {
		if s, m, _, is, why := dispatch.Next(l, r); why != api.ErrRange || is || !sameRun(s, api.Run{}) || !sameList(m, api.Listeners{}) {
			t.Errorf("%s: Next: %v, error %d", no, is, why)
		}
	}
	for _, does := range []api.Effect{api.EffectCount, 100, 255} {
		if s, why := dispatch.Act(r, does); why != api.ErrType || !sameRun(s, api.Run{}) {
			t.Errorf("Act of %d: error %d", does, why)
		}
	}
}

// P22.4: what has not ended does not end.
func TestEndErrors(t *testing.T) {
	on := api.Event{Type: "x", Dispatching: true, Target: 1}
	for _, clears := range []bool{false, true} {
		for _, r := range []api.Run{
			{Event: on, Path: steps(1, 2), Clears: clears}, {Event: on, Path: steps(1, 2), Turn: 3, Clears: clears},
			{Event: on, Path: steps(1, 2), Turn: 4, Due: []int{1}, Clears: clears},
		} {
			if e, fine, why := dispatch.End(r); why != api.ErrState || fine || e != (api.Event{}) {
				t.Errorf("End at turn %d: %v, %v, error %d", r.Turn, e, fine, why)
			}
		}
	}
}

// P22.5: listeners that are not right, then too many effects, then effects that are none, in whichever entry.
func TestAllErrors(t *testing.T) {
	fine, odd := api.Effects{Callback: 11}, api.Effects{Callback: 99, Does: []api.Effect{0, api.EffectCount}}
	long := api.Effects{Does: make([]api.Effect, api.MaxList+1)}
	lost := api.Effects{Gone: make([]int, api.MaxList+1)}
	for what, x := range map[string]struct {
		does []api.Effects
		no   api.Errno
	}{
		"too many entries":           {make([]api.Effects, api.MaxList+1), api.ErrMany},
		"too many, one that is none": {append([]api.Effects{odd}, make([]api.Effects, api.MaxList)...), api.ErrMany},
		"too much is done":           {[]api.Effects{fine, long}, api.ErrMany},
		"too many go":                {[]api.Effects{fine, lost}, api.ErrMany},
		"too much behind none":       {[]api.Effects{odd, long}, api.ErrMany},
		"too many behind none":       {[]api.Effects{odd, fine, lost}, api.ErrMany},
		"none in the first":          {[]api.Effects{odd, fine}, api.ErrType},
		"none in the last":           {[]api.Effects{fine, fine, odd}, api.ErrType},
		"none in a second entry":     {[]api.Effects{fine, {Callback: 11, Does: []api.Effect{255}}}, api.ErrType},
		"as many as may be":          {[]api.Effects{{Callback: 1, Does: long.Does[1:], Gone: lost.Gone[1:]}}, api.OK},
		"as many entries":            {make([]api.Effects, api.MaxList), api.OK},
	} {
		calls, m, e, is, why := dispatch.All(of(at(1)), steps(1), bubbling(), false, x.does)
		if why != x.no || is != (x.no == api.OK) || (calls == nil) != (x.no != api.OK) || (len(m.List) == 0) != (x.no != api.OK) || (e == api.Event{}) != (x.no != api.OK) {
			t.Errorf("%s: %v, %v, error %d; want %d", what, calls, is, why, x.no)
		}
		for no, l := range noListeners() {
			if calls, m, e, is, why := dispatch.All(l, steps(1), bubbling(), false, x.does); why != api.ErrRange || calls != nil || !sameList(m, api.Listeners{}) || e != (api.Event{}) || is {
				t.Errorf("%s, %s: error %d", what, no, why)
			}
		}
	}
}

// P22.6: answers are new memory, and what is handed in stays as it is, with the room behind it.
func TestNewMemory(t *testing.T) {
	spoilt, gone := api.Step{Item: 999}, api.Listener{Id: 999}
	l := of(at(1), api.Listener{Node: 1, Once: true}, at(1), at(2))
	path := steps(1, 2)
	roomy := func() (api.Listeners, api.Run) {
		r := api.Run{Path: slices.Grow(slices.Clone(path), 8), Due: slices.Grow([]int{2, 1, 3}, 8), Turn: 3, Event: bubbling()}
		r.Event.Dispatching = true
		return sample.RoomyListeners(l), r
	}
	for what, call := range map[string]func(api.Listeners, api.Run) (api.Run, api.Listeners){
		"Begin": func(l api.Listeners, r api.Run) (api.Run, api.Listeners) {
			s, _ := dispatch.Begin(r.Path, bubbling(), false)
			return s, l
		},
		"Next": func(l api.Listeners, r api.Run) (api.Run, api.Listeners) {
			s, m, _, _, _ := dispatch.Next(l, r)
			return s, m
		},
		"Next of a new go": func(l api.Listeners, r api.Run) (api.Run, api.Listeners) {
			r.Turn, r.Due = 2, nil
			s, m, _, _, _ := dispatch.Next(l, r)
			return s, m
		},
		"Next of none": func(l api.Listeners, r api.Run) (api.Run, api.Listeners) {
			r.Turn, r.Due = 4, r.Due[:0]
			s, m, _, _, _ := dispatch.Next(l, r)
			return s, m
		},
		"Act": func(l api.Listeners, r api.Run) (api.Run, api.Listeners) {
			s, _ := dispatch.Act(r, api.EffectStop)
			return s, l
		},
	} {
		in, r := roomy()
		s, m := call(in, r)
		want, left := api.Run{Event: s.Event, Path: slices.Clone(s.Path), Turn: s.Turn, Due: slices.Clone(s.Due)}, slices.Clone(m.List)
		again, other := call(in, r)
		sample.Fill(again.Path, spoilt)
		sample.Fill(again.Due, 999)
		tells := what == "Begin" || what == "Act" // these answer no listeners
		if !tells {
			sample.Fill(other.List, gone)
		}
		if !sameList(in, l) || !slices.Equal(r.Path, path) || !slices.Equal(r.Due, []int{2, 1, 3}) || slices.Contains(r.Path[:cap(r.Path)], spoilt) ||
			slices.Contains(r.Due[:cap(r.Due)], 999) || slices.Contains(in.List[:cap(in.List)], gone) {
			t.Error(what, "changes what is handed in")
		}
		sample.Fill(r.Path, spoilt)
		sample.Fill(r.Due, 999)
		sample.Fill(in.List, gone)
		if !sameRun(s, want) || !tells && !slices.Equal(m.List, left) {
			t.Error(what, "has an answer that changes with what was handed in, or with another one")
		}
	}
}

// P22.6: so it is of All.
func TestNewMemoryOfAll(t *testing.T) {
	l := of(at(1), api.Listener{Node: 1, Once: true}, at(1), at(2))
	path := slices.Grow(steps(1, 2), 8)
	effects := []api.Effects{
		{Callback: 11, Does: []api.Effect{api.EffectPrevent, api.EffectNone, api.EffectPrevent}, Gone: []int{3, 9}},
		{Callback: 14, Does: []api.Effect{api.EffectStop}},
	}
	for _, does := range [][]api.Effects{nil, effects} {
		in := sample.RoomyListeners(l)
		calls, m, _, _, _ := dispatch.All(in, path, bubbling(), false, does)
		again, other, _, _, _ := dispatch.All(in, path, bubbling(), false, does)
		was, left := slices.Clone(again), slices.Clone(other.List)
		sample.Fill(again, api.Call{Id: 999})
		sample.Fill(other.List, api.Listener{Id: 999})
		if !sameList(in, l) || slices.Contains(in.List[:cap(in.List)], api.Listener{Id: 999}) || !slices.Equal(path, steps(1, 2)) {
			t.Error("All changes what is handed in")
		}
		sample.Fill(in.List, api.Listener{Id: 999})
		if !slices.Equal(calls, was) || !slices.Equal(m.List, left) {
			t.Error("All has an answer that changes with what was handed in, or with another one")
		}
	}
	if !slices.Equal(effects[0].Does, []api.Effect{api.EffectPrevent, api.EffectNone, api.EffectPrevent}) || !slices.Equal(effects[0].Gone, []int{3, 9}) {
		t.Error("All changes the effects:", effects)
	}
}

// P1: as much as may be is done soon: each listener at each step, each with all the effects that it may have.
func TestGreat(t *testing.T) {
	started := time.Now()
	var list []api.Listener
	for range api.MaxListeners {
		list = append(list, api.Listener{Node: 1, Passive: api.PassiveOn})
	}
	l := of(list...)
	path := slices.Repeat(steps(1), api.MaxList)
	does := slices.Repeat([]api.Effect{api.EffectNone, api.EffectPrevent}, api.MaxList/2)
	var gone []int
	for i := range api.MaxList {
		gone = append(gone, api.MaxListeners+1+i)
	}
	gone[0] = api.MaxListeners
	var effects []api.Effects
	for i := range api.MaxList {
		effects = append(effects, api.Effects{Callback: i, Does: does, Gone: gone})
	}
	calls, left, _, fine, why := dispatch.All(l, path, bubbling(), false, effects)
	if why != api.OK || len(calls) != api.MaxList*(api.MaxListeners-1) || len(left.List) != api.MaxListeners-1 || !fine {
		t.Error(len(calls), len(left.List), fine, why)
	}
	for i := range list {
		l.List[i].Once = true
	}
	calls, left, _, _, why = dispatch.All(l, path, bubbling(), false, nil)
	if why != api.OK || len(calls) != api.MaxListeners || len(left.List) != 0 {
		t.Error(len(calls), len(left.List), why)
	}
	for i := range path {
		path[i].Item = 2
	}
	r, _ := dispatch.Begin(path, bubbling(), true)
	for i := range path {
		path[i].Target = 0
	}
	far, _ := dispatch.Begin(path, bubbling(), true)
	for _, r := range []api.Run{r, far} {
		if r, _, _, is, why := dispatch.Next(l, r); why != api.OK || is || !dispatch.Ended(r) {
			t.Error(is, why)
		}
	}
	if took := time.Since(started); took > time.Minute {
		t.Error("it took", took)
	}
}

// P1, P2: whatever is given, each call answers, and beside an error nothing else.
func TestAnything(t *testing.T) {
	d, refused := sample.NewDice(22), 0
	for range 4000 {
		l := sample.Listeners(d, d.Below(12))
		l.Next += d.Below(8)/7 - d.Below(8)/7
		r := api.Run{Path: anyPath(d), Event: anyEvent(d), Turn: d.Below(14) - 1}
		r.Event.Dispatching = d.Below(5) > 0
		for range d.Below(4) {
			r.Due = append(r.Due, d.Below(20)-2)
		}
		s, m, c, is, why := dispatch.Next(l, r)
		if why != api.OK {
			refused++
			if is || c != (api.Call{}) || !sameRun(s, api.Run{}) || !sameList(m, api.Listeners{}) {
				t.Fatal("beside an error:", s, m, c, is, why)
			}
		}
		if s, why := dispatch.Act(r, api.Effect(d.Below(6))); why != api.OK && !sameRun(s, api.Run{}) {
			t.Fatal("beside an error:", s, why)
		}
		if e, fine, why := dispatch.End(r); why != api.OK && (fine || e != (api.Event{})) {
			t.Fatal("beside an error:", e, fine, why)
		}
		if calls, m, e, fine, why := dispatch.All(l, r.Path, r.Event, false, anyEffects(d, l)); why != api.OK && (calls != nil || fine || e != (api.Event{}) || !sameList(m, api.Listeners{})) {
			t.Fatal("beside an error:", calls, m, e, fine, why)
		}
	}
	if refused < 1000 || refused > 3800 {
		t.Error("too few of a kind:", refused)
	}
}
