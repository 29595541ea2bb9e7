package sample_test

import (
	"slices"
	"testing"

	"canopy/abort"
	"canopy/api"
	"canopy/sample"
)

// What signals are grown is right, the same each time; there are many of each kind.
func TestSignals(t *testing.T) {
	aborted, depend, mixed, alone := 0, 0, 0, 0
	for seed := range 200 {
		l := sample.Signals(sample.NewDice(seed), seed%40)
		if why := abort.Check(l); why != api.OK || len(l) != seed%40 || !sample.SameSignals(l, sample.Signals(sample.NewDice(seed), seed%40)) {
			t.Errorf("seed %d: %v, error %d", seed, l, why)
		}
		for _, s := range l {
			switch {
			case s.Dependent && len(s.Sources) > 1:
				depend++
			case s.Dependent && len(s.Sources) == 0:
				alone++
			case !slices.IsSorted(s.Dependents):
				mixed++
			}
			if s.Aborted {
				aborted++
			}
		}
	}
	if aborted < 200 || depend < 200 || mixed < 100 || alone < 50 {
		t.Error("too few of a kind:", aborted, depend, mixed, alone)
	}
}

// Copies are the same, in other memory, with room behind lists or not; what is written over is seen.
func TestCopiesOfSignals(t *testing.T) {
	for _, copied := range []func([]api.Signal) []api.Signal{sample.CopySignals, sample.RoomySignals} {
		l, want := sample.Signals(sample.NewDice(3), 9), sample.Signals(sample.NewDice(3), 9)
		m := copied(l)
		sample.SpoilSignals(l)
		if !sample.SameSignals(m, want) || sample.SpoiltSignals(m) || !sample.SpoiltSignals(l) || sample.SameSignals(l, m) {
			t.Error(l, m)
		}
	}
	m := sample.RoomySignals([]api.Signal{{}})
	sample.SpoilSignal(m[0])
	if !sample.SpoiltSignals(m) || !sample.SameSignals(m, []api.Signal{{}}) {
		t.Error("what is written behind a list is not seen:", m)
	}
	for _, other := range []api.Signal{{Aborted: true}, {Reason: 1}, {Dependent: true}, {Sources: []int{1}}, {Dependents: []int{1}}} {
		if sample.SameSignals([]api.Signal{{}}, []api.Signal{other}) || sample.SameSignals(nil, []api.Signal{other}) {
			t.Error("the same:", other)
		}
	}
}
