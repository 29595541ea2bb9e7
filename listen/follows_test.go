package listen_test

import (
	"slices"
	"testing"

	"canopy/api"
	"canopy/listen"
	"canopy/sample"
)

func alike(a, b api.Listener) bool {
	return a.Node == b.Node && a.Type == b.Type && a.Callback == b.Callback && a.Capture == b.Capture
}

func has(l api.Listeners, x api.Listener) bool {
	return slices.ContainsFunc(l.List, func(y api.Listener) bool { return alike(x, y) })
}

func fine(t *testing.T, why api.Errno) {
	t.Helper()
	if why != api.OK {
		t.Fatal("error", why)
	}
}

// each hands on listeners that are picked by dice, and one more.
func each(seeds int, try func(seed int, d *sample.Dice, l api.Listeners, x api.Listener)) {
	for seed := range seeds {
		d := sample.NewDice(seed)
		l := sample.Listeners(d, d.Below(40))
		try(seed, d, l, sample.Listener(d))
	}
}

// 21.6: added twice it is there once; what is answered is right; no Id is given anew, whatever is taken away between.
func TestOnce(t *testing.T) {
	twice, gone := 0, 0
	for seed := range 60 {
		d, l, given := sample.NewDice(seed), api.Listeners{}, 0
		for range 80 {
			x, was := sample.Listener(d), l
			m, id, why := listen.Add(l, x, d.Below(2) == 0, false)
			fine(t, why)
			if is := has(was, x); is != (id == 0) || is && !same(m, was) || !has(m, x) {
				t.Fatalf("seed %d: Add of %v to %v: %v, %d", seed, x, was, m, id)
			}
			if id != 0 && id <= given {
				t.Fatalf("seed %d: the Id %d is given anew", seed, id)
			}
			if id == 0 {
				twice++
			}
			given = max(given, id)
			again, none, why := listen.Add(m, x, true, false)
			if why != api.OK || none != 0 || !same(again, m) {
				t.Fatalf("seed %d: added twice: %v, %d, error %d", seed, again, none, why)
			}
			y := sample.Listener(d)
			switch l = m; d.Below(6) {
			case 0:
				l, _, why = listen.Remove(m, y.Node, y.Type, y.Callback, y.Capture)
			case 1:
				l, _, why = listen.Expire(m, d.Below(m.Next+1))
			case 2:
				l, why = listen.Abort(m, d.Below(12))
			}
			fine(t, why)
			fine(t, listen.Check(l))
			gone += len(m.List) - len(l.List)
		}
	}
	if twice < 200 || gone < 500 {
		t.Error("too few of a kind:", twice, gone)
	}
}

// 21.7: Remove behind Add of what was not there has the list that there was.
func TestThereAndBack(t *testing.T) {
	back := 0
	each(600, func(seed int, d *sample.Dice, l api.Listeners, x api.Listener) {
		m, id, why := listen.Add(l, x, false, false)
		fine(t, why)
		n, gone, why := listen.Remove(m, x.Node, x.Type, x.Callback, x.Capture)
		fine(t, why)
		if id != 0 {
			back++
			if gone != id || !slices.Equal(n.List, l.List) || n.Next != id+1 {
				t.Errorf("seed %d: %v, then %v", seed, l, n)
			}
		} else if gone == 0 || len(n.List) != len(l.List)-1 || has(n, x) {
			t.Errorf("seed %d: Remove of what was there already: %v, then %v", seed, l, n)
		}
	})
	if back < 200 {
		t.Error("too few:", back)
	}
}

// 21.8: each is due in just one of two goes at the target, and at just one of capture and bubble, in the order in which they were added.
func TestAllAreCalled(t *testing.T) {
	called := 0
	each(200, func(seed int, d *sample.Dice, l api.Listeners, _ api.Listener) {
		for node := range 6 {
			for _, kind := range []string{"x", "y", "wheel", "z"} {
				var all []int
				for _, x := range l.List {
					if x.Node == node && x.Type == kind {
						all = append(all, x.Id)
					}
				}
				for _, goes := range [][2]api.Phase{{api.PhaseTarget, api.PhaseTarget}, {api.PhaseCapture, api.PhaseBubble}} {
					down, why := listen.Due(l, node, kind, goes[0], true)
					fine(t, why)
					up, why := listen.Due(l, node, kind, goes[1], false)
					fine(t, why)
					if !slices.IsSorted(down) || !slices.IsSorted(up) {
						t.Errorf("seed %d: %v, %v", seed, down, up)
					}
					both := append(slices.Clone(down), up...)
					slices.Sort(both)
					if !slices.Equal(both, all) {
						t.Errorf("seed %d: %v and %v; want %v", seed, down, up, all)
					}
					called += len(both)
				}
				if listen.Has(l, node, kind) != (len(all) > 0) {
					t.Errorf("seed %d: Has(%d, %s)", seed, node, kind)
				}
			}
		}
	})
	if called < 2000 {
		t.Error("too few:", called)
	}
}

// 21.9: behind Abort none of the signal is there, the others in their order.
func TestSignals(t *testing.T) {
	gone := 0
	each(200, func(seed int, d *sample.Dice, l api.Listeners, _ api.Listener) {
		for signal := -1; signal < 4; signal++ {
			m, why := listen.Abort(l, signal)
			fine(t, why)
			var left []api.Listener
			for _, x := range l.List {
				if signal == 0 || x.Signal != signal {
					left = append(left, x)
				}
			}
			if !slices.Equal(m.List, left) || m.Next != l.Next {
				t.Errorf("seed %d: Abort of %d: %v, then %v", seed, signal, l, m)
			}
			gone += len(l.List) - len(left)
		}
	})
	if gone < 500 {
		t.Error("too few:", gone)
	}
}
