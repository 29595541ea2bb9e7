package world_test

import (
	"math"
	"strconv"
	"strings"
	"testing"

	"canopy/api"
	"canopy/sample"
)

// Of the commands: listeners, events, signals.
func TestEvents(t *testing.T) {
	long := strings.Repeat("a", api.MaxName+1)
	wantOps(t, stage(t), map[string]string{
		`listen 3 "x" 1 0 0`:                "listen=2",
		`listen 3 "x" 2 0 1`:                "listen=2",
		`listen 2 "x" 1 0 0`:                "listen",
		`listen 2 "x" 1 0 1`:                "listen",
		`listen 3 "x" 1 0 2`:                "listen", // aborted
		`listen 3 "x" 1 0 3`:                "listen!range",
		`listen 3 "x" 1 0 -1`:               "listen!range",
		`listen 0 "x" 1 0 0`:                "listen!range",
		`listen 10 "x" 1 0 0`:               "listen!range",
		`listen 3 "x" 0 0 0`:                "listen!range",
		`listen 3 "x" 3 0 0`:                "listen!range",
		`listen 3 "x" -1 0 0`:               "listen!range",
		`listen 3 "` + long + `" 1 0 0`:     "listen!long",
		`listen 3 "` + long + `" 1 0 2`:     "listen!long",
		`listen 3 "` + long + `" 3 0 0`:     "listen!range",
		`listen 3 "` + long[1:] + `" 1 0 0`: "listen=2",
		`unlisten 2 "x" 1 0`:                "unlisten=1",
		`unlisten 2 "x" 1 1`:                "unlisten",
		`unlisten 2 "x" 2 0`:                "unlisten",
		`unlisten 2 "y" 1 0`:                "unlisten",
		`unlisten 3 "x" 1 0`:                "unlisten",
		`unlisten 99 "x" 1 0`:               "unlisten",
		`unlisten 0 "" 0 0`:                 "unlisten",
		`unlisten 2 "x" 99 0`:               "unlisten",
		`dispatch 3 "x" 0`:                  "dispatch=1",
		`dispatch 3 "y" 1`:                  "dispatch=1",
		`dispatch 3 "" 9223372036854775807`: "dispatch=1",
		`dispatch 3 "x" -1`:                 "dispatch!range",
		`dispatch 0 "x" 0`:                  "dispatch!range",
		`dispatch 10 "x" 0`:                 "dispatch!range",
		`dispatch 3 "` + long + `" 0`:       "dispatch!long",
		`dispatch 3 "` + long + `" -1`:      "dispatch!range",
		`dispatch 99 "` + long + `" 0`:      "dispatch!range",
		`dispatch 3 "` + long[1:] + `" 0`:   "dispatch=1",
		`effect 0`:                          "effect!state",
		`effect 3`:                          "effect!state",
		`effect 4`:                          "effect!state",
		`effect -1`:                         "effect!state",
		`signal`:                            "signal=3",
		`abort 1 0`:                         "abort=1",
		`abort 1 -5`:                        "abort=1",
		`abort 2 5`:                         "abort",
		`abort 0 5`:                         "abort!range",
		`abort 3 5`:                         "abort!range",
		`abort -1 5`:                        "abort!range",
		`any []`:                            "any=3",
		`any [1 2]`:                         "any=3",
		`any [1 3]`:                         "any!range",
		`any [0]`:                           "any!range",
		`any [-1 1]`:                        "any!range",
	})
}

// OpListen: what each bit makes of a listener, at a root one and elsewhere.
func TestListenBits(t *testing.T) {
	for bits := range 32 {
		for _, x := range []struct {
			node  int
			kind  string
			given api.Passive
		}{{2, "x", api.PassiveOff}, {2, "wheel", api.PassiveOn}, {1, "touchmove", api.PassiveOn}, {3, "wheel", api.PassiveOff}, {8, "wheel", api.PassiveOff}, {5, "wheel", api.PassiveOff}, {7, "wheel", api.PassiveOff}} {
			want := api.Listener{Id: 2, Node: x.node, Type: x.kind, Callback: 2, Capture: bits&1 != 0, Once: bits&2 != 0, Passive: x.given, Signal: 1}
			if bits&4 != 0 {
				want.Passive = api.PassiveOn
			} else if bits&8 != 0 {
				want.Passive = api.PassiveOff
			}
			w := stage(t)
			w.Do(api.Command{Op: api.OpListen, A: x.node, S: x.kind, N: 2, M: bits, B: 1})
			if l := w.State().Listeners.List; len(l) != 2 || l[1] != want {
				t.Errorf("bits %d: %v; want %v", bits, l, want)
			}
		}
	}
	for _, bits := range []int{-1, math.MinInt, -8} {
		w := stage(t)
		w.Do(api.Command{Op: api.OpListen, A: 3, S: "x", N: 2, M: bits})
		if l := w.State().Listeners.List; len(l) != 2 || l[1] != (api.Listener{Id: 2, Node: 3, Type: "x", Callback: 2, Passive: api.PassiveOff}) {
			t.Errorf("bits %d: %v", bits, l)
		}
		wantOp(t, stage(t), api.Command{Op: api.OpUnlisten, A: 2, S: "x", N: 1, M: bits}, "unlisten=1")
	}
	// A comment of the document is no element of it.
	w := stage(t)
	w.Do(api.Command{Op: api.OpInsert, A: 5, B: 1})
	w.Do(api.Command{Op: api.OpListen, A: 5, S: "wheel", N: 2})
	if l := w.State().Listeners.List; len(l) != 2 || l[1].Passive != api.PassiveOff {
		t.Error("a comment:", l)
	}
}

// at is a trace of a program that is called by an event at a node in a phase, and does nothing.
func at(program, node, phase int) string {
	n := strconv.Itoa(program)
	return ">" + n + " event " + strconv.Itoa(node) + " " + strconv.Itoa(phase) + "; <" + n + "; "
}

// Words (dispatching): the goes, the bits, through shadow trees.
func TestDispatch(t *testing.T) {
	tree := `element "div" ""; insert 2 1 0; element "p" ""; insert 3 2 0; text "a"; insert 4 3 0; attach 2 1 no; element "slot" ""; insert 6 5 0; `
	all := tree + `listen 1 "x" 1 1 0; listen 1 "x" 2 0 0; listen 3 "x" 1 1 0; listen 3 "x" 2 0 0; listen 4 "x" 1 0 0; listen 4 "x" 2 1 0; listen 6 "x" 1 0 0; listen 5 "x" 2 1 0; listen 2 "x" 3 0 0`
	w := begun(t, all, "", "", "")
	down := at(1, 1, 1) + at(2, 5, 1)
	slotUp := at(1, 6, 3)
	wantOps(t, w, map[string]string{
		`dispatch 4 "x" 0`: down + at(1, 3, 1) + at(2, 4, 2) + at(1, 4, 2) + "dispatch=1",
		`dispatch 4 "x" 1`: down + at(1, 3, 1) + at(2, 4, 2) + at(1, 4, 2) + at(2, 3, 3) + slotUp + at(3, 2, 3) + at(2, 1, 3) + "dispatch=1",
		`dispatch 4 "x" 7`: down + at(1, 3, 1) + at(2, 4, 2) + at(1, 4, 2) + at(2, 3, 3) + slotUp + at(3, 2, 3) + at(2, 1, 3) + "dispatch=1",
		`dispatch 6 "x" 1`: at(2, 5, 1) + at(1, 6, 2) + "dispatch=1",
		`dispatch 6 "x" 5`: at(1, 1, 1) + at(2, 5, 1) + at(1, 6, 2) + at(3, 2, 2) + at(2, 1, 3) + "dispatch=1",
		`dispatch 6 "x" 4`: at(1, 1, 1) + at(2, 5, 1) + at(1, 6, 2) + at(3, 2, 2) + "dispatch=1",
		`dispatch 1 "x" 0`: at(1, 1, 2) + at(2, 1, 2) + "dispatch=1",
		`dispatch 4 "X" 1`: "dispatch=1",
	})
}

// OpEffect: each effect, and none, within a dispatch; of the last one that is under way.
func TestEffects(t *testing.T) {
	tree := `element "p" ""; insert 2 1 0; listen 2 "x" 1 0 0; listen 2 "x" 2 0 0; listen 1 "x" 2 0 0; `
	for effect, want := range map[string]string{
		"effect 0":                     ">1 event 2 2; effect; <1; " + at(2, 2, 2) + at(2, 1, 3) + "dispatch=1",
		"effect 1":                     ">1 event 2 2; effect; <1; " + at(2, 2, 2) + "dispatch=1",
		"effect 2":                     ">1 event 2 2; effect; <1; dispatch=1",
		"effect 3":                     ">1 event 2 2; effect; <1; " + at(2, 2, 2) + at(2, 1, 3) + "dispatch",
		"effect 4":                     ">1 event 2 2; effect!type; <1!type; " + at(2, 2, 2) + at(2, 1, 3) + "dispatch=1",
		"effect -1":                    ">1 event 2 2; effect!type; <1!type; " + at(2, 2, 2) + at(2, 1, 3) + "dispatch=1",
		"effect 256":                   ">1 event 2 2; effect!type; <1!type; " + at(2, 2, 2) + at(2, 1, 3) + "dispatch=1",
		"effect 259":                   ">1 event 2 2; effect!type; <1!type; " + at(2, 2, 2) + at(2, 1, 3) + "dispatch=1",
		"effect 3; effect 2":           ">1 event 2 2; effect; effect; <1; dispatch",
		`dispatch 2 "y" 1; effect 2`:   ">1 event 2 2; dispatch=1; effect; <1; dispatch=1",
		`dispatch 2 "y" -1; effect 2`:  ">1 event 2 2; dispatch!range; <1!range; " + at(2, 2, 2) + at(2, 1, 3) + "dispatch=1",
		`unlisten 2 "x" 2 0`:           ">1 event 2 2; unlisten=2; <1; " + at(2, 1, 3) + "dispatch=1",
		`listen 1 "x" 1 0 0`:           ">1 event 2 2; listen=4; <1; " + at(2, 2, 2) + at(2, 1, 3) + ">1 event 1 3; listen; <1; dispatch=1",
		`remove 2 1`:                   ">1 event 2 2; remove; <1; " + at(2, 2, 2) + at(2, 1, 3) + "dispatch=1",
		`signal; effect 9; effect 2`:   ">1 event 2 2; signal=1; effect!type; <1!type; " + at(2, 2, 2) + at(2, 1, 3) + "dispatch=1",
		`turn 0`:                       ">1 event 2 2; turn!state; <1!state; " + at(2, 2, 2) + at(2, 1, 3) + "dispatch=1",
		`listen 2 "z" 2 2 0; signal`:   ">1 event 2 2; listen=4; signal=1; <1; " + at(2, 2, 2) + at(2, 1, 3) + "dispatch=1",
		`unlisten 2 "x" 1 0; effect 1`: ">1 event 2 2; unlisten=1; effect; <1; " + at(2, 2, 2) + "dispatch=1",
	} {
		wantOp(t, begun(t, tree, effect, ""), api.Command{Op: api.OpDispatch, A: 2, S: "x", N: 3}, want)
	}
	// Not cancelable, or promised: nothing is prevented.
	wantOp(t, begun(t, tree, "effect 3", ""), api.Command{Op: api.OpDispatch, A: 2, S: "x"}, ">1 event 2 2; effect; <1; "+at(2, 2, 2)+"dispatch=1")
	wantTrace(t, "promised", "listen=1; >1 event 1 2; effect; <1; dispatch=1; listen=2; >1 event 1 2; effect; <1; dispatch",
		`listen 1 "x" 1 4 0; dispatch 1 "x" 2; listen 1 "y" 1 8 0; dispatch 1 "y" 2`, "effect 3")
	// Behind a dispatch within, the one around it goes on; outside of any there is none.
	wantTrace(t, "within", "listen=1; listen=2; >1 event 1 2; >2 event 1 2; effect; <2; dispatch; effect; <1; dispatch=1; effect!state",
		`listen 1 "x" 1 0 0; listen 1 "y" 2 0 0; dispatch 1 "x" 2; effect 3`, `dispatch 1 "y" 2; effect 1`, "effect 3")
	// A microtask is in no dispatch, though a dispatch had it wait.
	wantTrace(t, "a microtask", "listen=1; >1 event 1 2; micro; <1; dispatch=1; >2 micro 0 0; effect!state; <2!state", `listen 1 "x" 1 0 0; dispatch 1 "x" 0`, "micro 2", "effect 1")
}

// OpListen with Once, and till a signal; OpAbort of a signal with listeners, and of one that others depend on.
func TestListenersThatGo(t *testing.T) {
	wantTrace(t, "once", "listen=1; >1 event 1 2; dispatch=1; <1; dispatch=1; dispatch=1", `listen 1 "x" 1 2 0; dispatch 1 "x" 0; dispatch 1 "x" 0`, `dispatch 1 "x" 0`)
	s := wantTrace(t, "aborted", "signal=1; signal=2; any=3; listen=1; listen=2; listen=3; listen=4; abort=2; "+at(1, 1, 2)+at(3, 1, 2)+"dispatch=1; abort; abort!state; listen; listen=5",
		`signal; signal; any [1 2]; listen 1 "x" 1 0 0; listen 1 "x" 2 0 1; listen 1 "x" 3 0 2; listen 1 "x" 4 0 3; abort 1 7; dispatch 1 "x" 0; abort 1 8; abort 3 9; listen 1 "x" 4 0 3; listen 1 "x" 4 0 2`, "", "", "", "")
	if len(s.Listeners.List) != 3 || !s.Signals[2].Aborted || s.Signals[2].Reason != 7 || s.Signals[1].Aborted {
		t.Error(s.Listeners, s.Signals)
	}
	wantTrace(t, "aborted meanwhile", "signal=1; listen=1; listen=2; listen=3; >1 event 1 2; abort=1; <1; "+at(3, 1, 2)+"dispatch=1",
		`signal; listen 1 "x" 1 0 0; listen 1 "x" 2 0 1; listen 1 "x" 3 0 0; dispatch 1 "x" 0`, "abort 1 0", "", "")
	s = wantTrace(t, "without a reason", "signal=1; abort=1", "signal; abort 1 0")
	if s.Signals[0].Reason != int(api.ErrAbort) {
		t.Error(s.Signals)
	}
}

// Words (dispatching): MaxNest dispatches under way, and one more: behind the errors of the calls.
func TestManyDispatches(t *testing.T) {
	w := begun(t, `listen 1 "x" 1 0 0`, `dispatch 1 "x" 0`)
	l, _ := w.Do(api.Command{Op: api.OpDispatch, A: 1, S: "x"})
	want := strings.Repeat(">1 event 1 2; ", api.MaxNest) + "dispatch!many; <1!many; " + strings.Repeat("dispatch=1; <1; ", api.MaxNest-1) + "dispatch=1"
	if got := spelled(l); got != want {
		t.Error(got)
	}
	long := strings.Repeat("a", api.MaxName+1)
	for last, why := range map[string]string{
		`dispatch 1 "` + long + `" 0`: "long", `dispatch 99 "x" 0`: "range", `dispatch 1 "x" -1`: "range", `dispatch 1 "y" 0`: "many",
	} {
		// Programs within one another, as deep as may be: each has the next event on its way, the last one does what is tried.
		var programs []string
		main := ""
		for i := range api.MaxNest {
			programs = append(programs, `dispatch 1 "e`+strconv.Itoa(i+2)+`" 0`)
			main += `listen 1 "e` + strconv.Itoa(i+1) + `" ` + strconv.Itoa(i+1) + ` 0 0; `
		}
		programs[api.MaxNest-1] = last
		l, _ := begun(t, main, programs...).Do(api.Command{Op: api.OpDispatch, A: 1, S: "e1"})
		if m := l[api.MaxNest]; m.Kind != api.MarkDone || errorName(m.Why) != why {
			t.Errorf("%s: %v; want %s", last, m, why)
		}
	}
}

// Words (calling a program): MaxNest programs within one another, and one more, which burns, and ends with ErrMany.
func TestManyPrograms(t *testing.T) {
	s := wantTrace(t, "by events", "listen=1; micro; >1 micro 0 0; "+strings.Repeat(">1 event 1 2; ", 31)+"<1!many; "+strings.Repeat("dispatch=1; <1; ", 31)+"dispatch=1; <1",
		`listen 1 "x" 1 0 0; micro 1`, `dispatch 1 "x" 0`)
	if s.Fuel != 400-2-1-31*2-2 {
		t.Error(s.Fuel)
	}
	s = wantTrace(t, "by constructors", "define; "+constructs(2, 33)+"element=2",
		`define "x-a" "" [1 0 0 0 0] []; element "x-a" ""`, `element "x-a" ""`)
	for _, e := range s.Registry.Elements {
		if want := map[bool]api.CustomState{true: api.StateCustom, false: api.StateFailed}[e.Node < 34]; e.State != want {
			t.Error("by constructors:", e)
		}
	}
}

// constructs is the trace of a constructor that makes an element of its own kind, from a node on, till too many are within one another.
func constructs(from, to int) string {
	if from == to+1 {
		return "<1!many; "
	}
	return ">1 construct " + strconv.Itoa(from) + " 0; " + constructs(from+1, to) + "element=" + strconv.Itoa(from+1) + "; <1; "
}

// OpTimer: at the level of how many programs are within one another.
func TestLevels(t *testing.T) {
	var programs []string
	main := ""
	for i := range 8 {
		n := strconv.Itoa(i + 1)
		programs = append(programs, `timer 0 9; dispatch 1 "e`+strconv.Itoa(i+2)+`" 0`)
		main += `listen 1 "e` + n + `" ` + n + ` 0 0; `
	}
	w := begun(t, main+`timer 0 9; timer -5 9; dispatch 1 "e1" 0`, append(programs, "")...)
	wantOp(t, w, api.Command{Op: api.OpTick}, "tick=7")
	f := wantOp(t, w, api.Command{Op: api.OpTick, N: 3}, "tick=7")
	wantOp(t, f, api.Command{Op: api.OpTick, N: 1}, "tick=3")
}

// P3, 29.2: the marks that Do answers are those of the command and of all that came of it.
func TestMarksOfDo(t *testing.T) {
	for seed := range 200 {
		s := sample.Play(sample.NewDice(seed))
		w := worldOf(t, s)
		var all []api.Mark
		for _, c := range s.Commands {
			l, why := w.Do(c)
			if why != api.OK {
				if l != nil || !w.State().Exhausted || why != api.ErrState {
					t.Fatal(seed, l, why)
				}
				continue
			}
			all = append(all, l...)
		}
		if spelled(all) != spelled(w.Marks()) {
			t.Fatalf("seed %d: %s, by Do %s", seed, spelled(w.Marks()), spelled(all))
		}
	}
}
