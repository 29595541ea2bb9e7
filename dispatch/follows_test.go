package dispatch_test

import (
	"slices"
	"testing"

	"canopy/api"
	"canopy/dispatch"
	"canopy/listen"
	"canopy/sample"
)

// over is the go k of a path: which step, and whether capturing.
func over(path []api.Step, k int) (int, bool) {
	var all []int
	for i := range path {
		all = append(all, i)
	}
	down := slices.Clone(all)
	slices.Reverse(down)
	return append(down, all...)[k], k < len(path)
}

func phaseOf(s api.Step, capturing bool) api.Phase {
	switch {
	case s.Target != 0:
		return api.PhaseTarget
	case capturing:
		return api.PhaseCapture
	}
	return api.PhaseBubble
}

// modelNext is what the words say of Next, one after another; both l and r are right.
func modelNext(l api.Listeners, r api.Run) (api.Run, api.Listeners, api.Call, bool) {
	r.Event.Passive = false
	if r.Event.StopNow {
		r.Due = nil
	}
	for {
		for len(r.Due) > 0 {
			id := r.Due[0]
			r.Due = slices.Clone(r.Due[1:])
			for _, x := range l.List {
				if x.Id != id {
					continue
				}
				if x.Once {
					l, _, _ = listen.Expire(l, id)
				}
				if x.Passive == api.PassiveOn {
					r.Event.Passive = true
				}
				step, _ := over(r.Path, r.Turn-1)
				return r, l, api.Call{Id: id, Callback: x.Callback, Step: step}, true
			}
		}
		if r.Turn == 2*len(r.Path) {
			return r, l, api.Call{}, false
		}
		step, capturing := over(r.Path, r.Turn)
		s := r.Path[step]
		phase := phaseOf(s, capturing)
		r.Turn++
		if phase == api.PhaseBubble && !r.Event.Bubbles || r.Event.Stop {
			continue
		}
		r.Event.Phase, r.Event.Current, r.Event.Related, r.Event.Target = phase, s.Item, s.Related, 0
		for _, s := range r.Path[:step+1] {
			if s.Target != 0 {
				r.Event.Target = s.Target
			}
		}
		r.Due, _ = listen.Due(l, s.Item, r.Event.Type, phase, capturing)
	}
}

func anyPath(d *sample.Dice) []api.Step {
	l := make([]api.Step, d.Below(6))
	for i := range l {
		l[i] = api.Step{Item: 1 + d.Below(5), Related: d.Below(3), Closed: d.Below(2) == 0}
		if i == 0 || d.Below(4) == 0 {
			l[i].Target = 1 + d.Below(5)
		}
		if d.Below(12) == 0 {
			l[i].Target = 0
		}
	}
	return l
}

// eachOnce is a path without a node that is there twice.
func eachOnce(d *sample.Dice) []api.Step {
	var l []api.Step
	for _, s := range anyPath(d) {
		if !slices.ContainsFunc(l, func(x api.Step) bool { return x.Item == s.Item }) {
			l = append(l, s)
		}
	}
	return l
}

func anyEvent(d *sample.Dice) api.Event {
	return api.Event{
		Type: sample.Type(d), Bubbles: d.Below(3) > 0, Cancelable: d.Below(3) > 0, Canceled: d.Below(8) == 0,
		Stop: d.Below(20) == 0, StopNow: d.Below(12) == 0, Passive: d.Below(2) == 0,
		Phase: api.Phase(d.Below(5)), Target: d.Below(9), Related: d.Below(9), Current: d.Below(9),
	}
}

func anyEffects(d *sample.Dice, l api.Listeners) []api.Effects {
	var all []api.Effects
	for range d.Below(5) {
		x := api.Effects{Callback: d.Below(5)}
		for range d.Below(3) {
			x.Does = append(x.Does, []api.Effect{0, 0, 0, 0, 0, 0, api.EffectStop, api.EffectStopNow, api.EffectPrevent, api.EffectPrevent}[d.Below(10)])
		}
		for range d.Below(3) {
			x.Gone = append(x.Gone, d.Below(l.Next+2)-1)
		}
		all = append(all, x)
	}
	return all
}

// P22.2: Next is as the words have it, of dispatches that no Begin made, too.
func TestNextAsModel(t *testing.T) {
	kinds := map[string]int{}
	for seed := range 6000 {
		d := sample.NewDice(seed)
		l := sample.Listeners(d, d.Below(60))
		r := api.Run{Path: anyPath(d), Event: anyEvent(d), Clears: d.Below(2) == 0}
		r.Event.Dispatching = true
		if r.Turn = d.Below(2*len(r.Path) + 1); r.Turn > 0 {
			for range d.Below(5) {
				r.Due = append(r.Due, d.Below(l.Next+4)-2)
			}
		}
		got, left, c, is, why := dispatch.Next(l, r)
		want, leaves, call, calls := modelNext(l, r)
		if why != api.OK || c != call || is != calls || !sameRun(got, want) || !sameList(left, leaves) {
			t.Fatalf("seed %d: Next(%v, %v): %v, %v, %v, %v, error %d; want %v, %v, %v, %v", seed, l, r, got, left, c, is, why, want, leaves, call, calls)
		}
		if is && got.Turn > r.Turn {
			kinds["called in a later go"]++
		}
		if is && got.Turn == r.Turn {
			kinds["called in this go"]++
		}
		if len(left.List) < len(l.List) {
			kinds["once"]++
		}
		if got.Event.Passive {
			kinds["passive"]++
		}
		if !is {
			kinds["none"]++
		}
		if is && got.Event.Target != got.Event.Current {
			kinds["target elsewhere"]++
		}
	}
	for _, kind := range []string{"called in a later go", "called in this go", "once", "passive", "none", "target elsewhere"} {
		if kinds[kind] < 200 {
			t.Error("too few of a kind:", kind, kinds[kind])
		}
	}
}

// byCall is what All answers, made call by call; seen is asked at each call, with the dispatch in which it came.
func byCall(t *testing.T, l api.Listeners, r api.Run, effects []api.Effects, seen func(c api.Call, r api.Run)) ([]api.Call, api.Listeners, api.Run) {
	t.Helper()
	fine := func(why api.Errno) {
		t.Helper()
		if why != api.OK {
			t.Fatal("error", why)
		}
	}
	var calls []api.Call
	for {
		next, left, c, is, why := dispatch.Next(l, r)
		fine(why)
		if r, l = next, left; !is {
			return calls, l, r
		}
		calls = append(calls, c)
		seen(c, r)
		at := slices.IndexFunc(effects, func(x api.Effects) bool { return x.Callback == c.Callback })
		if at < 0 {
			continue
		}
		for _, does := range effects[at].Does {
			r, why = dispatch.Act(r, does)
			fine(why)
		}
		for _, id := range effects[at].Gone {
			l, _, why = listen.Expire(l, id)
			fine(why)
		}
	}
}

// P22.5, P22.11: Next and Act, call by call, make what All answers.
func TestCallByCall(t *testing.T) {
	long, stopped := 0, 0
	for seed := range 4000 {
		d := sample.NewDice(seed)
		l, path, e := sample.Listeners(d, d.Below(80)), anyPath(d), anyEvent(d)
		effects, clears := anyEffects(d, l), d.Below(2) == 0
		calls, left, end, fine, why := dispatch.All(l, path, e, clears, effects)
		r, no := dispatch.Begin(path, e, clears)
		if why != api.OK || no != api.OK {
			t.Fatal(seed, why, no)
		}
		each, leaves, last := byCall(t, l, r, effects, func(api.Call, api.Run) {})
		want, is, no := dispatch.End(last)
		if no != api.OK || !slices.Equal(calls, each) || !sameList(left, leaves) || end != want || fine != is {
			t.Fatalf("seed %d: All: %v, %v, %v, %v; call by call: %v, %v, %v, %v, error %d", seed, calls, left, end, fine, each, leaves, want, is, no)
		}
		if len(calls) > 4 {
			long++
		}
		if last.Event.Stop && len(calls) > 0 {
			stopped++
		}
	}
	if long < 200 || stopped < 200 {
		t.Error("too few of a kind:", long, stopped)
	}
}

// P22.7: without effects the calls go down and up, within a go by their Ids; each listener has its one call, or none.
func TestDownAndUp(t *testing.T) {
	called, not := 0, 0
	for seed := range 1500 {
		d := sample.NewDice(seed)
		l, path, e := sample.Listeners(d, d.Below(80)), eachOnce(d), anyEvent(d)
		e.Stop, e.StopNow = false, false
		calls, _, _, _, why := dispatch.All(l, path, e, false, nil)
		if why != api.OK {
			t.Fatal(seed, why)
		}
		var want []api.Call
		for _, down := range []bool{true, false} {
			for i := range path {
				step := i
				if down {
					step = len(path) - 1 - i
				}
				for _, x := range l.List {
					if x.Node != path[step].Item || x.Type != e.Type || x.Capture != down {
						continue
					}
					if !down && path[step].Target == 0 && !e.Bubbles {
						not++
						continue
					}
					want = append(want, api.Call{Id: x.Id, Callback: x.Callback, Step: step})
				}
			}
		}
		if !slices.Equal(calls, want) {
			t.Fatalf("seed %d: %s; want %s", seed, written(calls), written(want))
		}
		called += len(want)
	}
	if called < 3000 || not < 300 {
		t.Error("too few of a kind:", called, not)
	}
}

// P22.8: behind EffectStop all further calls are in the same go; behind EffectStopNow there is none.
func TestStopped(t *testing.T) {
	further, last := 0, 0
	for seed := range 1500 {
		d := sample.NewDice(seed)
		l, path, e := sample.Listeners(d, 80), eachOnce(d), anyEvent(d)
		e.Stop, e.StopNow, e.Bubbles = false, false, true
		whole, _, _, _, _ := dispatch.All(l, path, e, false, nil)
		r, _ := dispatch.Begin(path, e, false)
		does := api.EffectStop + api.Effect(d.Below(2))
		by := 1 + d.Below(3)
		turn := 0
		calls, _, _ := byCall(t, l, r, stops(by, does), func(c api.Call, r api.Run) {
			if turn != 0 && (r.Turn != turn || does == api.EffectStopNow) {
				t.Errorf("seed %d: %v is called at turn %d, it was stopped at %d", seed, c, r.Turn, turn)
			}
			if turn != 0 {
				further++
			}
			if c.Callback == by {
				turn = r.Turn
			}
		})
		if !slices.Equal(calls, whole[:len(calls)]) {
			t.Errorf("seed %d: %s, of %s", seed, written(calls), written(whole))
		}
		if len(calls) < len(whole) {
			last++
		}
	}
	if further < 100 || last < 300 {
		t.Error("too few of a kind:", further, last)
	}
}

// P22.9: what is answered last is false just if some call that was not passive prevented, the event being Cancelable, or it was Canceled ahead.
func TestPrevented(t *testing.T) {
	yes, no := 0, 0
	for seed := range 2000 {
		d := sample.NewDice(seed)
		l, path, e := sample.Listeners(d, 60), anyPath(d), anyEvent(d)
		effects := append(stops(1+d.Below(6), api.EffectPrevent), anyEffects(d, l)...)
		calls, _, end, fine, why := dispatch.All(l, path, e, false, effects)
		prevented := e.Canceled
		for _, c := range calls {
			by := slices.IndexFunc(effects, func(x api.Effects) bool { return x.Callback == c.Callback })
			x := l.List[slices.IndexFunc(l.List, func(x api.Listener) bool { return x.Id == c.Id })]
			if by >= 0 && slices.Contains(effects[by].Does, api.EffectPrevent) && x.Passive == api.PassiveOff && e.Cancelable {
				prevented = true
			}
		}
		if why != api.OK || fine == prevented || end.Canceled != prevented {
			t.Fatalf("seed %d: %v, error %d: %s", seed, fine, why, written(calls))
		}
		if prevented && !e.Canceled {
			yes++
		}
		if !prevented {
			no++
		}
	}
	if yes < 200 || no < 200 {
		t.Error("too few of a kind:", yes, no)
	}
}

// P22.10: one that is Once is called at most once, and is gone behind it; one that is taken away ahead of its call is not called.
func TestOnce(t *testing.T) {
	once, away := 0, 0
	for seed := range 2000 {
		d := sample.NewDice(seed)
		l, path, e := sample.Listeners(d, 60), anyPath(d), anyEvent(d)
		effects := anyEffects(d, l)
		calls, left, _, _, why := dispatch.All(l, path, e, false, effects)
		if why != api.OK {
			t.Fatal(seed, why)
		}
		gone := map[int]bool{}
		for _, c := range calls {
			if gone[c.Id] {
				t.Fatalf("seed %d: %d is called, and was gone", seed, c.Id)
			}
			if x := l.List[slices.IndexFunc(l.List, func(x api.Listener) bool { return x.Id == c.Id })]; x.Once {
				gone[c.Id] = true
				once++
			}
			by := slices.IndexFunc(effects, func(x api.Effects) bool { return x.Callback == c.Callback })
			if by < 0 {
				continue
			}
			for _, id := range effects[by].Gone {
				gone[id] = true
				away++
			}
		}
		var stay []api.Listener
		for _, x := range l.List {
			if !gone[x.Id] {
				stay = append(stay, x)
			}
		}
		if !slices.Equal(left.List, stay) || left.Next != l.Next {
			t.Fatalf("seed %d: who is left: %v; want %v", seed, left, stay)
		}
	}
	if once < 500 || away < 500 {
		t.Error("too few of a kind:", once, away)
	}
}

// Whatever is done, what is answered is right: it goes on, and it ends.
func TestStaysRight(t *testing.T) {
	for seed := range 400 {
		d := sample.NewDice(seed)
		l, r := sample.Listeners(d, 60), api.Run{Path: anyPath(d), Event: anyEvent(d)}
		r.Event.Dispatching = true
		for !dispatch.Ended(r) {
			next, left, _, is, why := dispatch.Next(l, r)
			if why != api.OK || !is && !dispatch.Ended(next) || listen.Check(left) != api.OK {
				t.Fatal(seed, next, left, is, why)
			}
			if r, why = dispatch.Act(next, api.Effect(d.Below(9)/6)); why != api.OK {
				t.Fatal(seed, why)
			}
			l, _, _ = listen.Add(left, sample.Listener(d), false, false)
		}
	}
}
