package abort_test

import (
	"math"
	"testing"

	"canopy/abort"
	"canopy/api"
	"canopy/sample"
)

// notRight are signals that are not right, each for one reason.
func notRight() map[string][]api.Signal {
	fine := read("- - - -<1.2 -<2")
	sources := func(h int, l ...int) []api.Signal { return with(fine, h, func(s *api.Signal) { s.Sources = l }) }
	dependents := func(h int, l ...int) []api.Signal { return with(fine, h, func(s *api.Signal) { s.Dependents = l }) }
	return map[string][]api.Signal{
		"aborted without a reason":          {{Aborted: true}},
		"a reason, not aborted":             {{Reason: 7}},
		"a reason below 0, not aborted":     {{Reason: -7}},
		"the second, without a reason":      {{}, {Aborted: true}},
		"a Dependent, without a reason":     {{}, {Aborted: true, Dependent: true}},
		"a Dependent's reason, not aborted": {{Reason: 1, Dependent: true}},
		"a Dependent with Dependents":       dependents(4, 5),
		"a Dependent with one that is none": dependents(4, 9),
		"one with Sources":                  sources(3, 1),
		"one with Sources that answer":      with(sources(3, 1), 1, func(s *api.Signal) { s.Dependents = []int{4, 3} }),
		"one with a Source that is none":    sources(3, 9),
		"a Source of 0":                     sources(4, 1, 2, 0),
		"a Source below 0":                  sources(4, -1, 1, 2),
		"a Source beyond":                   sources(4, 1, 2, 6),
		"a Source far beyond":               sources(4, 1, math.MaxInt, 2),
		"a Source twice":                    sources(4, 1, 2, 1),
		"a Source twice, told twice":        with(sources(4, 1, 2, 1), 1, func(s *api.Signal) { s.Dependents = []int{4, 4} }),
		"a Source twice at once":            sources(4, 1, 1, 2),
		"a Source that is Dependent":        sources(5, 2, 4),
		"Dependent on one another":          with(sources(5, 2, 4), 4, func(s *api.Signal) { s.Dependents = []int{5} }),
		"Dependent on itself":               sources(5, 2, 5),
		"a Source that does not answer":     sources(4, 1, 2, 3),
		"a Source that is told no more":     sources(4, 1),
		"no Sources that are told":          sources(5),
		"one Source for another":            sources(4, 1, 3),
		"a Dependent of 0":                  dependents(1, 4, 0),
		"a Dependent below 0":               dependents(1, -1, 4),
		"a Dependent beyond":                dependents(1, 4, 6),
		"a Dependent far beyond":            dependents(1, math.MinInt, 4),
		"a Dependent twice":                 dependents(1, 4, 4),
		"a Dependent for another":           dependents(1, 5),
		"a Dependent that depends not":      dependents(1, 4, 3),
		"a Dependent that is itself":        dependents(3, 3),
		"a Dependent that does not answer":  dependents(1, 4, 5),
		"Dependents that are told no more":  dependents(2, 4),
		"no Dependents where some tell it":  dependents(2),
		"two, of which one is there twice":  dependents(2, 4, 4),
		"not aborted, its Source is":        with(fine, 2, func(s *api.Signal) { s.Aborted, s.Reason = true, 7 }),
		"not aborted, its first Source is":  with(fine, 1, func(s *api.Signal) { s.Aborted, s.Reason = true, 7 }),
		"of two one is not aborted":         with(read("-!7 -!7<1 -!7<1"), 3, func(s *api.Signal) { s.Aborted, s.Reason = false, 0 }),
	}
}

// wantRefused sees that each call that is handed signals answers an error, and nothing else.
func wantRefused(t *testing.T, what string, l []api.Signal, want api.Errno) {
	t.Helper()
	was := sample.CopySignals(l)
	if why := abort.Check(l); why != want {
		t.Errorf("%s: Check: error %d; want %d", what, why, want)
	}
	for _, n := range []int{0, 1, -1, 2, 99, math.MaxInt} {
		if is, by, why := abort.Of(l, n); why != want || is || by != 0 {
			t.Errorf("%s: Of: %v, %d, error %d; want %d", what, is, by, why, want)
		}
		if m, h, why := abort.New(l, n); why != want || h != 0 || m != nil {
			t.Errorf("%s: New: %d, error %d; want %d", what, h, why, want)
		}
		for _, sources := range [][]int{nil, {n}, make([]int, api.MaxSignals+1)} {
			if m, h, why := abort.Any(l, sources); why != want || h != 0 || m != nil {
				t.Errorf("%s: Any: %d, error %d; want %d", what, h, why, want)
			}
		}
		for _, reason := range []int{0, 7} {
			if m, told, why := abort.Abort(l, n, reason); why != want || told != nil || m != nil {
				t.Errorf("%s: Abort: %v, error %d; want %d", what, told, why, want)
			}
		}
	}
	if !sample.SameSignals(l, was) {
		t.Errorf("%s: what was handed in is changed", what)
	}
}

// 23.1: signals that are not right are refused by each call, ahead of all else.
func TestNotRight(t *testing.T) {
	for what, l := range notRight() {
		wantRefused(t, what, l, api.ErrRange)
	}
}

// 23.1: more than MaxSignals, right or not, ahead of all else.
func TestTooMany(t *testing.T) {
	wantRefused(t, "one more", make([]api.Signal, api.MaxSignals+1), api.ErrMany)
	torn := make([]api.Signal, api.MaxSignals+1)
	torn[0].Aborted = true
	wantRefused(t, "one more, not right besides", torn, api.ErrMany)
	torn = make([]api.Signal, api.MaxSignals)
	torn[api.MaxSignals-1].Reason = 1
	wantRefused(t, "as many as may be, the last not right", torn, api.ErrRange)
}

// 23.2, 23.3: no more than MaxSignals, and no more sources, ahead of sources that are none.
func TestNoMore(t *testing.T) {
	full := make([]api.Signal, api.MaxSignals)
	for _, reason := range []int{0, 7} {
		if m, h, why := abort.New(full, reason); why != api.ErrMany || h != 0 || m != nil {
			t.Error("New:", h, why)
		}
	}
	for _, sources := range [][]int{nil, {1}, {0}, {api.MaxSignals + 1}, make([]int, api.MaxSignals+1)} {
		if m, h, why := abort.Any(full, sources); why != api.ErrMany || h != 0 || m != nil {
			t.Error("Any:", h, why)
		}
	}
	many := make([]int, api.MaxSignals+1)
	for _, n := range []int{0, 1} {
		sample.Fill(many, n)
		if m, h, why := abort.Any(read("-"), many); why != api.ErrMany || h != 0 || m != nil {
			t.Error("Any of too many sources:", h, why)
		}
	}
	if m, h, why := abort.Any(read("-"), many[1:]); why != api.OK || h != 2 || written(m) != "->2 -<1" {
		t.Error("Any of as many as may be:", written(m), h, why)
	}
}

// 23.1, 23.3, 23.4: a handle of none.
func TestNoSignal(t *testing.T) {
	l := read("- -!7 -<1")
	for _, h := range []int{0, -1, 4, math.MaxInt, math.MinInt} {
		for _, list := range [][]api.Signal{l, nil} {
			if is, by, why := abort.Of(list, h); why != api.ErrRange || is || by != 0 {
				t.Errorf("Of(%d): %v, %d, error %d", h, is, by, why)
			}
			if m, told, why := abort.Abort(list, h, 7); why != api.ErrRange || told != nil || m != nil {
				t.Errorf("Abort(%d): %v, error %d", h, told, why)
			}
		}
		for _, sources := range [][]int{{h}, {1, h}, {h, 1}, {2, h}, {h, 2}, {3, h}} {
			if m, n, why := abort.Any(l, sources); why != api.ErrRange || n != 0 || m != nil {
				t.Errorf("Any(%v): %d, error %d", sources, n, why)
			}
		}
	}
}

// 23.4: nobody has the controller of one that is Dependent, aborted or not.
func TestAbortOfDependent(t *testing.T) {
	l := read("- -< -<1 -!8<1 -!9<")
	for _, h := range []int{2, 3, 4, 5} {
		for _, reason := range []int{0, 7} {
			if m, told, why := abort.Abort(l, h, reason); why != api.ErrState || told != nil || m != nil {
				t.Errorf("Abort(%d): %v, error %d", h, told, why)
			}
		}
	}
}
