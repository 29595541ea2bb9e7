package world_test

import (
	"slices"
	"strconv"
	"strings"
	"testing"

	"canopy/api"
	"canopy/sample"
	"canopy/world"
)

// Words (burning): fuel of 0: the world is exhausted by the first command, not ahead of it.
func TestNoFuel(t *testing.T) {
	w := worldOf(t, api.Script{})
	if s := w.State(); s.Exhausted || s.Fuel != 0 || !w.Idle() || len(w.Marks()) != 0 {
		t.Error("ahead:", s)
	}
	if l, why := w.Do(api.Command{Op: api.OpSignal}); why != api.OK || spelled(l) != "." {
		t.Error(spelled(l), why)
	}
	if s := w.State(); !s.Exhausted || s.Fuel != 0 || len(s.Signals) != 0 || !w.Idle() {
		t.Error("behind:", s)
	}
	for op := range api.OpCount + 2 {
		if l, why := w.Do(api.Command{Op: op, A: 1, N: 1}); why != api.ErrState || l != nil {
			t.Error(spelled(l), why)
		}
	}
	if spelled(w.Marks()) != "." {
		t.Error(spelled(w.Marks()))
	}
	if l, s, why := world.Run(api.Script{}); why != api.OK || len(l) != 0 || s.Exhausted {
		t.Error("Run of nothing:", l, s, why)
	}
	wantRun(t, "no fuel", ".", written(t, 0, "signal; signal"))
	wantRun(t, "fuel of 1", "signal=1; .", written(t, 1, "signal; signal; signal"))
	wantRun(t, "no command too many", "signal=1; signal=2", written(t, 2, "signal; signal"))
	wantRun(t, "what is refused burns", "ask!range; .", written(t, 1, "ask 0 0; signal"))
	wantRun(t, "a program burns, too", "micro; .", written(t, 1, "micro 1; signal", ""))
	wantRun(t, "and is not begun", "micro; >1 micro 0 0; <1", written(t, 2, "micro 1", ""))
}

// rich are scripts in which much is within one another.
func rich(t *testing.T) map[string]api.Script {
	custom := `element "p" ""; insert 2 1 0; element "x-a" ""; insert 3 2 0; setattr 3 "id" "a"; element "x-a" ""; insert 4 2 0; `
	slots := `element "div" ""; insert 2 1 0; attach 2 1 no; element "slot" ""; insert 4 3 0; text "a"; `
	return map[string]api.Script{
		"commands":    written(t, 400, "signal; any [1]; abort 1 0; ask 0 0; dump 1"),
		"programs":    written(t, 400, `listen 1 "x" 1 0 0; listen 1 "x" 2 2 0; dispatch 1 "x" 3; dispatch 1 "x" 0`, `signal; dispatch 1 "y" 0; effect 3`, "signal; signal"),
		"reactions":   written(t, 400, custom+`define "x-a" "" [1 2 3 4 5] ["id"]; remove 2 1; insert 2 1 0`, "signal; signal", "signal", `setattr 3 "id" "b"`, "", "ask 0 0"),
		"a program":   written(t, 400, custom+`listen 1 "x" 6 0 0; dispatch 1 "x" 0`, "ask 0 0", "signal", "", "", "signal", `define "x-a" "" [1 2 3 4 5] ["id"]; signal`),
		"microtasks":  written(t, 400, `observer 3; observe 1 1 7; element "p" ""; micro 1; micro 2; remove 2 1`, "insert 2 1 0; micro 2; signal", "signal", `setattr 2 "id" "a"; take 1`),
		"slots":       written(t, 400, slots+`listen 4 "slotchange" 1 2 0; listen 3 "slotchange" 2 0 0; observer 2; observe 1 2 1; insert 5 2 0`, "remove 5 2; signal", "signal"),
		"tasks":       written(t, 400, "task 0 1; timer 0 2; tick 0; turn 0; turn 0; turn 0", "timer 0 2; signal", "signal; micro 1"),
		"too deep":    written(t, 400, `listen 1 "x" 1 0 0; micro 1`, `dispatch 1 "x" 0`),
		"constructor": written(t, 400, `define "x-a" "" [1 0 0 0 0] []; element "x-a" ""; signal`, `element "x-a" ""`),
	}
}

// wantCut sees what is told where the fuel ends sooner: as much as may be, and that it ended.
func wantCut(t *testing.T, what string, s api.Script) {
	t.Helper()
	all, state, why := world.Run(s)
	fine(t, why)
	if state.Exhausted {
		all = all[:len(all)-1]
	}
	needs := s.Fuel - state.Fuel
	for fuel := range needs + 1 {
		cut := s
		cut.Fuel = fuel
		l, then, why := world.Run(cut)
		fine(t, why)
		m := modelRun(cut)
		if !slices.Equal(l, m.marks) || !sample.SameState(then, m.s) {
			t.Fatalf("%s, fuel %d: %s; the words have %s", what, fuel, spelled(l), spelled(m.marks))
		}
		if then.Exhausted {
			if then.Fuel != 0 || l[len(l)-1] != (api.Mark{Kind: api.MarkExhausted}) {
				t.Fatalf("%s, fuel %d: %s", what, fuel, spelled(l))
			}
			l = l[:len(l)-1]
		}
		if len(l) > len(all) || !slices.Equal(l, all[:len(l)]) || then.Exhausted != (fuel < needs || state.Exhausted) {
			t.Fatalf("%s, fuel %d: exhausted %v, %s; with more\n%s", what, fuel, then.Exhausted, spelled(l), spelled(all))
		}
		if slices.ContainsFunc(l, func(m api.Mark) bool { return m.Kind == api.MarkExhausted }) || len(l) > 2*fuel {
			t.Fatalf("%s, fuel %d: %s", what, fuel, spelled(l))
		}
	}
}

// Words (burning), 29.5, P8: fuel that ends in a command, a program, a reaction, a dispatch, a microtask: nothing happens behind that.
func TestCutShort(t *testing.T) {
	for what, s := range rich(t) {
		wantCut(t, what, s)
	}
	for seed := range 60 {
		s := sample.Play(sample.NewDice(seed))
		s.Fuel = min(s.Fuel, 120)
		wantCut(t, "seed "+strconv.Itoa(seed), s)
	}
}

// Words (burning): what is under way is left as it is.
func TestLeftAsItIs(t *testing.T) {
	run := func(fuel int, main string, programs ...string) (*world.World, api.State) {
		s := written(t, fuel, main, programs...)
		w := worldOf(t, s)
		for _, c := range s.Commands {
			w.Do(c)
		}
		if !w.State().Exhausted {
			t.Errorf("%s: not exhausted: %s", main, spelled(w.Marks()))
		}
		return w, w.State()
	}
	w, s := run(5, `element "x-a" ""; setattr 2 "id" "a"; insert 2 1 0; define "x-a" "" [1 1 1 1 1] ["id"]`, "signal")
	if e := s.Registry.Elements[0]; e.State != api.StateFailed || len(s.Signals) != 0 || w.Idle() {
		t.Error("in a constructor:", e, spelled(w.Marks()))
	}
	w, s = run(3, `listen 1 "x" 1 2 0; dispatch 1 "x" 0`, "signal")
	if len(s.Listeners.List) != 0 || spelled(w.Marks()) != "listen=1; >1 event 1 2; ." {
		t.Error("in a dispatch:", s.Listeners, spelled(w.Marks()))
	}
	w, s = run(6, `observer 1; observe 1 1 1; element "p" ""; micro 2`, "", "insert 2 1 0; signal")
	if len(s.Watch.Queues[0]) != 1 || w.Idle() {
		t.Error("in a microtask:", s.Watch, spelled(w.Marks()))
	}
	w, s = run(4, `observer 1; observe 1 1 1; element "p" ""; insert 2 1 0`, "")
	if len(s.Watch.Queues[0]) != 0 || !w.Idle() || spelled(w.Marks()) != "observer=1; observe; element=2; insert; ." {
		t.Error("ahead of an observer:", s.Watch, spelled(w.Marks()))
	}
	w, s = run(2, "micro 1; micro 1", "micro 1")
	if spelled(w.Marks()) != "micro; >1 micro 0 0; ." || s.Fuel != 0 {
		t.Error("in a program:", spelled(w.Marks()))
	}
	w, _ = run(3, "micro 1", "micro 1; signal")
	if w.Idle() || spelled(w.Marks()) != "micro; >1 micro 0 0; micro; ." {
		t.Error("with a microtask that waits:", spelled(w.Marks()))
	}
	// A reaction that is under way when the fuel ends: what waits behind it waits.
	w, s = run(7, `element "x-a" ""; element "x-a" ""; element "p" ""; insert 4 1 0; insert 2 4 0; insert 3 4 0; define "x-a" "" [1 0 0 0 0] []`, "")
	if w.Idle() || s.Registry.Elements[0].State != api.StateFailed || s.Registry.Elements[1].State != api.StateUndefined || len(s.Registry.Definitions) != 1 {
		t.Error("in a reaction:", s.Registry, spelled(w.Marks()))
	}
}

// Limits: MaxFuel is let in, and burnt to the end; Run has at most MaxList commands.
func TestMostFuel(t *testing.T) {
	marks, s, why := world.Run(written(t, api.MaxFuel, "micro 1", "micro 1"))
	if why != api.OK || !s.Exhausted || s.Fuel != 0 || len(marks) != 1+(api.MaxFuel-1)/2*3+2 {
		t.Error(why, s.Fuel, len(marks))
	}
	signals := slices.Repeat([]api.Command{{Op: api.OpClear}}, api.MaxList)
	marks, s, why = world.Run(api.Script{Fuel: api.MaxFuel, Commands: signals})
	if why != api.OK || s.Exhausted || s.Fuel != 0 || len(marks) != api.MaxList {
		t.Error(why, s.Fuel, len(marks))
	}
	w := worldOf(t, api.Script{Fuel: api.MaxFuel, Programs: [][]api.Command{signals}})
	if l, why := w.Do(api.Command{Op: api.OpMicro, M: 1}); why != api.OK || len(l) != api.MaxFuel+1 || l[len(l)-1].Kind != api.MarkExhausted {
		t.Error(len(l), why)
	}
}

// Limits, 29.6: MaxNodes nodes, and one more; the greatest operations are refused as wholes.
func TestMostNodes(t *testing.T) {
	main := `element "p" ""; fragment; insert 2 3 0; `
	n, kids := 3, 1
	for n < 1000 {
		main += "clone 3 yes; insert " + strconv.Itoa(n+1) + " 3 0; "
		n, kids = n+1+kids, 2*kids
	}
	w := begun(t, main)
	if got := len(w.State().Forest.Nodes); got != n {
		t.Fatal(got, n)
	}
	for n+1+kids <= api.MaxNodes {
		wantOp(t, w, api.Command{Op: api.OpClone, A: 3, Yes: true}, "clone="+strconv.Itoa(n+1))
		w.Do(api.Command{Op: api.OpClone, A: 3, Yes: true})
		n += 1 + kids
	}
	wantOp(t, w, api.Command{Op: api.OpClone, A: 3, Yes: true}, "clone!many")
	for len(w.State().Forest.Nodes) < api.MaxNodes {
		if l, _ := w.Do(api.Command{Op: api.OpFragment}); l[0].Why != api.OK {
			t.Fatal(l)
		}
	}
	for _, c := range commands(t, `element "p" ""; text "a"; fragment; clone 2 no; attach 2 1 no`) {
		want := "!many"
		if l, _ := w.Fork().Do(c); !strings.HasSuffix(spelled(l), want) {
			t.Error(c, spelled(l))
		}
	}
}

// Words (having changes done): as many changes as are done at once, and more: these are refused, whether anything lives there or not.
func TestMostChanges(t *testing.T) {
	main := `element "p" ""; fragment; insert 2 3 0; fragment; `
	n, kids := 4, 1
	for kids < api.MaxList/2 {
		main += "clone 3 yes; insert " + strconv.Itoa(n+1) + " 3 0; "
		n, kids = n+1+kids, 2*kids
	}
	for _, more := range []string{"", "range 3 1 3 4; iterate 3 1; observer 1; observe 1 3 1; attach 2 1 no; define \"x-a\" \"\" [1 0 0 0 0] []"} {
		w := begun(t, main+more, "")
		wantOp(t, w, api.Command{Op: api.OpInsert, A: 3, B: 4}, "insert!many")
		wantOp(t, w, api.Command{Op: api.OpContent, A: 3}, "content"+map[bool]string{true: "; >1 records 1 1; <1"}[more != ""])
		w.Do(api.Command{Op: api.OpRemove, A: 2, B: 3})
		wantOp(t, w, api.Command{Op: api.OpInsert, A: 3, B: 4}, "insert"+map[bool]string{true: "; >1 records 1 1; <1"}[more != ""])
	}
}
