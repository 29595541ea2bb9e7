package world_test

import (
	"math"
	"slices"
	"testing"

	"canopy/api"
	"canopy/sample"
	"canopy/world"
)

// 29.4: of a nil world.
func TestNil(t *testing.T) {
	var w *world.World
	for op := range 256 {
		if l, why := w.Do(api.Command{Op: api.Op(op), A: 1, N: 1}); l != nil || why != api.ErrNil {
			t.Error("Do:", l, why)
		}
	}
	if w.Fork() != nil || w.Marks() != nil || w.Idle() || !sample.SameState(w.State(), api.State{}) {
		t.Error("Fork, Marks, Idle, State")
	}
}

// wantNew sees how New and Run refuse, or do not, programs and fuel.
func wantNew(t *testing.T, what string, programs [][]api.Command, fuel int, want api.Errno) {
	t.Helper()
	w, why := world.New(programs, fuel)
	if why != want || (w == nil) != (want != api.OK) {
		t.Errorf("%s: New: error %d; want %d", what, why, want)
	}
	for _, l := range [][]api.Command{nil, {{Op: api.OpSignal}}, make([]api.Command, api.MaxList+1)} {
		should := want
		if should == api.OK && len(l) > api.MaxList {
			should = api.ErrMany
		}
		marks, s, why := world.Run(api.Script{Commands: l, Programs: programs, Fuel: fuel})
		if why != should || why != api.OK && (marks != nil || !sample.SameState(s, api.State{})) {
			t.Errorf("%s, %d commands: Run: %v, error %d; want %d", what, len(l), marks, why, should)
		}
	}
}

// 29.1, 29.3: MaxList programs and commands, and one more; fuel from 0 to MaxFuel; what goes first.
func TestNew(t *testing.T) {
	most, more := make([]api.Command, api.MaxList), make([]api.Command, api.MaxList+1)
	for fuel, want := range map[int]api.Errno{0: api.OK, 1: api.OK, api.MaxFuel: api.OK, api.MaxFuel + 1: api.ErrRange, -1: api.ErrRange, math.MaxInt: api.ErrRange, math.MinInt: api.ErrRange} {
		wantNew(t, "no programs", nil, fuel, want)
		wantNew(t, "some", [][]api.Command{nil, {{Op: 99}}, most, {}}, fuel, want)
		wantNew(t, "MaxList programs", make([][]api.Command, api.MaxList), fuel, want)
		wantNew(t, "one program more", make([][]api.Command, api.MaxList+1), fuel, api.ErrMany)
		wantNew(t, "one command more", [][]api.Command{nil, more}, fuel, api.ErrMany)
		wantNew(t, "one command more, ahead of others", [][]api.Command{more, nil, most}, fuel, api.ErrMany)
	}
	s := worldOf(t, api.Script{Fuel: 7}).State()
	want := api.State{Forest: api.Forest{Nodes: []api.Node{{Kind: api.KindDocument, Doc: 1, HTML: true}}}, Fuel: 7}
	if !sample.SameState(s, want) {
		t.Error("a new world:", s)
	}
	// The last program of MaxList has its number.
	programs := make([][]api.Command, api.MaxList)
	programs[api.MaxList-1] = []api.Command{{Op: api.OpSignal}}
	w := worldOf(t, api.Script{Fuel: 9, Programs: programs})
	if l, _ := w.Do(api.Command{Op: api.OpMicro, M: api.MaxList}); spelled(l) != "micro; >4096 micro 0 0; signal=1; <4096" {
		t.Error(spelled(l))
	}
	if l, _ := w.Do(api.Command{Op: api.OpMicro, M: api.MaxList + 1}); spelled(l) != "micro!range" {
		t.Error(spelled(l))
	}
}

// P1, P2: each op with any numbers, lists and texts, in any world: it is done, or refused; a refused one turns nothing.
func TestAnyCommand(t *testing.T) {
	for seed := range 60 {
		d := sample.NewDice(seed)
		s := sample.Play(d)
		s.Fuel = 400
		w := worldOf(t, s)
		for _, c := range s.Commands {
			w.Do(c)
		}
		for op := range 256 {
			f := w.Fork()
			was := f.State()
			l, why := f.Do(sample.Command(d, api.Op(op)))
			if was.Exhausted {
				if why != api.ErrState {
					t.Fatal(why)
				}
				continue
			}
			top := outside(l)
			if why != api.OK || len(top) > 1 {
				t.Fatalf("seed %d, op %d: %s, error %d", seed, op, spelled(l), why)
			}
			if len(l) == 1 && l[0].Why != api.OK {
				was.Fuel--
				if l[0].Value != 0 || l[0].Text != "" || !sample.SameState(was, f.State()) {
					t.Fatalf("seed %d: %s changes what there is", seed, spelled(l))
				}
			}
		}
	}
}

// P4: two worlds of the same programs have nothing to do with one another.
func TestApart(t *testing.T) {
	s := sample.Play(sample.NewDice(3))
	alone := worldOf(t, s)
	v, w := worldOf(t, s), worldOf(t, s)
	for i, c := range s.Commands {
		a, _ := alone.Do(c)
		b, _ := v.Do(c)
		w.Do(s.Commands[len(s.Commands)-1-i])
		if !slices.Equal(a, b) || !sample.SameState(alone.State(), v.State()) {
			t.Fatal(i, spelled(a), spelled(b))
		}
	}
}
