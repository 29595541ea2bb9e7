package abort_test

import (
	"slices"
	"testing"

	"canopy/abort"
	"canopy/api"
	"canopy/sample"
)

func fine(t *testing.T, why api.Errno) {
	t.Helper()
	if why != api.OK {
		t.Fatal("error", why)
	}
}

// step is what a call of a list does, and what it answers.
type step struct {
	what    string
	l       []api.Signal
	h       int
	reason  int
	sources []int
	told    []int
}

// aStep does something that dice pick to signals of which there are some.
func aStep(t *testing.T, d *sample.Dice, l []api.Signal) step {
	t.Helper()
	s := step{reason: d.Below(3) * 7}
	var why api.Errno
	switch d.Below(5) {
	case 0:
		s.what = "New"
		if d.Below(3) > 0 {
			s.reason = 0
		}
		s.l, s.h, why = abort.New(l, s.reason)
	case 1, 2, 3:
		s.what = "Any"
		for range d.Below(4) {
			s.sources = append(s.sources, 1+d.Below(len(l)))
		}
		s.l, s.h, why = abort.Any(l, s.sources)
	default:
		s.what, s.h = "Abort", 1+d.Below(len(l))
		if l[s.h-1].Dependent {
			return aStep(t, d, l)
		}
		s.l, s.told, why = abort.Abort(l, s.h, s.reason)
	}
	fine(t, why)
	return s
}

// each has signals that are picked by dice, with steps that are.
func each(t *testing.T, seeds int, see func(seed int, l []api.Signal, s step)) {
	t.Helper()
	for seed := range seeds {
		d := sample.NewDice(seed)
		l := append(sample.Signals(d, d.Below(8)), api.Signal{})
		for range 30 {
			s := aStep(t, d, l)
			see(seed, l, s)
			l = s.l
		}
	}
}

// model is what a step must answer, as the words say it, by going over all signals.
func model(l []api.Signal, s step) ([]api.Signal, int, []int) {
	m := sample.CopySignals(l)
	switch s.what {
	case "New":
		return append(m, api.Signal{Aborted: s.reason != 0, Reason: s.reason}), len(m) + 1, nil
	case "Any":
		for _, h := range s.sources {
			if l[h-1].Aborted {
				return append(m, api.Signal{Aborted: true, Reason: l[h-1].Reason}), len(m) + 1, nil
			}
		}
		made := api.Signal{Dependent: true}
		for _, h := range s.sources {
			from := []int{h}
			if l[h-1].Dependent {
				from = l[h-1].Sources
			}
			for _, h := range from {
				if !slices.Contains(made.Sources, h) {
					made.Sources = append(made.Sources, h)
					m[h-1].Dependents = append(m[h-1].Dependents, len(l)+1)
				}
			}
		}
		return append(m, made), len(m) + 1, nil
	}
	if m[s.h-1].Aborted {
		return m, s.h, nil
	}
	reason := s.reason
	if reason == 0 {
		reason = 21
	}
	m[s.h-1].Aborted, m[s.h-1].Reason = true, reason
	told := []int{s.h}
	for _, h := range l[s.h-1].Dependents {
		if !l[h-1].Aborted {
			m[h-1].Aborted, m[h-1].Reason = true, reason
			told = append(told, h)
		}
	}
	return m, s.h, told
}

// 23.2 to 23.4, 23.6: each call answers what the words say, and that is right.
func TestAsModel(t *testing.T) {
	done := map[string]int{}
	each(t, 300, func(seed int, l []api.Signal, s step) {
		want, h, told := model(l, s)
		if !sample.SameSignals(s.l, want) || s.h != h || !slices.Equal(s.told, told) {
			t.Fatalf("seed %d: %s of %s (%d, %v): %s, told %v; want %s, %v", seed, s.what, written(l), s.h, s.sources, written(s.l), s.told, written(want), told)
		}
		if why := abort.Check(s.l); why != api.OK {
			t.Fatalf("seed %d: %s is not right", seed, written(s.l))
		}
		done[s.what]++
		if len(told) > 2 {
			done["told"]++
		}
	})
	if done["New"] < 500 || done["Any"] < 500 || done["Abort"] < 500 || done["told"] < 100 {
		t.Error("too few of a kind:", done)
	}
}

// child is a signal of Any, and what it was made of.
type child struct {
	h       int
	sources []int
}

// wantFollowed sees that a signal of Any is aborted just if one of its sources is, and told just when it becomes so: in the same call, behind its source, with its reason.
func wantFollowed(t *testing.T, l []api.Signal, s step, c child) bool {
	t.Helper()
	is, by, why := abort.Of(s.l, c.h)
	fine(t, why)
	if is != slices.ContainsFunc(c.sources, func(h int) bool { return s.l[h-1].Aborted }) {
		t.Fatalf("%s: %d of %v", written(s.l), c.h, c.sources)
	}
	if c.h == s.h || c.h > len(l) { // it was made aborted, or is aborted by itself
		return false
	}
	became, at := is && !l[c.h-1].Aborted, slices.Index(s.told, c.h)
	if became != (at >= 0) || became && (at == 0 || s.told[0] != s.h || by != s.l[s.h-1].Reason) {
		t.Fatalf("%s: %d is told of in %v, with %d", written(s.l), c.h, s.told, by)
	}
	return became
}

// 23.7: a signal of Any goes with its sources, then and later. 23.9: it never depends on one that is Dependent.
func TestAnyFollows(t *testing.T) {
	followed := 0
	for seed := range 200 {
		d, l := sample.NewDice(seed), []api.Signal{{}}
		var children []child
		for range 40 {
			s := aStep(t, d, l)
			if s.what == "Any" {
				children = append(children, child{s.h, s.sources})
				if slices.ContainsFunc(s.l[s.h-1].Sources, func(h int) bool { return s.l[h-1].Dependent }) {
					t.Fatalf("seed %d: %s depends on one that depends", seed, written(s.l))
				}
			}
			for _, c := range children {
				if wantFollowed(t, l, s, c) {
					followed++
				}
			}
			l = s.l
		}
	}
	if followed < 200 {
		t.Error("too few:", followed)
	}
}

// 23.8: what is aborted stays so, with its reason; a second Abort tells none.
func TestStays(t *testing.T) {
	twice := 0
	each(t, 200, func(seed int, l []api.Signal, s step) {
		for i, x := range l {
			if y := s.l[i]; x.Aborted && (!y.Aborted || y.Reason != x.Reason) {
				t.Fatalf("seed %d: %s, then %s", seed, written(l), written(s.l))
			}
		}
		if s.what != "Abort" {
			return
		}
		again, told, why := abort.Abort(s.l, s.h, 99)
		fine(t, why)
		if len(told) > 0 || !sample.SameSignals(again, s.l) {
			t.Fatalf("seed %d: once more: %v", seed, told)
		}
		twice++
	})
	if twice < 200 {
		t.Error("too few:", twice)
	}
}

// 23.9: a signal of Any of signals of Any has the Sources that all lead to, each once.
func TestThrough(t *testing.T) {
	l := read("- - - -")
	for _, sources := range [][]int{{1, 2}, {2, 3}, {5, 6}, {7, 4}, {8, 8, 5, 1}} {
		var why api.Errno
		l, _, why = abort.Any(l, sources)
		fine(t, why)
	}
	want := "->5.7.8.9 ->5.6.7.8.9 ->6.7.8.9 ->8.9 -<1.2 -<2.3 -<1.2.3 -<1.2.3.4 -<1.2.3.4"
	if written(l) != want {
		t.Error(written(l))
	}
	m, told, why := abort.Abort(l, 3, 5)
	if why != api.OK || !slices.Equal(told, []int{3, 6, 7, 8, 9}) || m[4].Aborted {
		t.Error(told, why)
	}
}

// 23.5: what each call answers is new memory, in all its lists, and what is handed in stays as it is.
func TestMemory(t *testing.T) {
	l := read("- -!7 -<1 -< -<1 -!7<2 -")
	for what, call := range map[string]func([]api.Signal, []int) ([]api.Signal, []int){
		"New": func(l []api.Signal, _ []int) ([]api.Signal, []int) { m, _, _ := abort.New(l, 0); return m, nil },
		"New, aborted": func(l []api.Signal, _ []int) ([]api.Signal, []int) {
			m, _, _ := abort.New(l, 8)
			return m, nil
		},
		"Any": func(l []api.Signal, s []int) ([]api.Signal, []int) { m, _, _ := abort.Any(l, s); return m, nil },
		"Any of none": func(l []api.Signal, s []int) ([]api.Signal, []int) {
			m, _, _ := abort.Any(l, s[:0])
			return m, nil
		},
		"Any of one that is": func(l []api.Signal, s []int) ([]api.Signal, []int) {
			s[0] = 2
			m, _, _ := abort.Any(l, s)
			return m, nil
		},
		"Abort": func(l []api.Signal, _ []int) ([]api.Signal, []int) {
			m, told, _ := abort.Abort(l, 1, 7)
			return m, told
		},
		"Abort, alone": func(l []api.Signal, _ []int) ([]api.Signal, []int) {
			m, told, _ := abort.Abort(l, 7, 7)
			return m, told
		},
		"Abort of what is": func(l []api.Signal, _ []int) ([]api.Signal, []int) {
			m, told, _ := abort.Abort(l, 2, 7)
			return m, told
		},
	} {
		in, sources := sample.RoomySignals(l), append(make([]int, 0, 9), 1, 7, 3)
		m, told := call(in, sources)
		if !sample.SameSignals(in, l) || sample.SpoiltSignals(in) || len(m) < len(l) {
			t.Errorf("%s: what was handed in is another one", what)
		}
		want, wantTold := sample.CopySignals(m), slices.Clone(told)
		sample.SpoilSignals(in)
		sample.Fill(sources, 99)
		sample.Fill(told, 99)
		if !sample.SameSignals(m, want) {
			t.Errorf("%s: the answer changes with what was handed in, or with who is told", what)
		}
		in = sample.RoomySignals(l)
		m, told = call(in, append(make([]int, 0, 9), 1, 7, 3))
		for i, s := range m {
			sample.SpoilSignal(s)
			m[i] = api.Signal{}
			if !sample.SameSignals(m[i+1:], want[i+1:]) || !slices.Equal(told, wantTold) {
				t.Errorf("%s: two lists of the answer are one", what)
			}
		}
		sample.SpoilSignals(m)
		if !sample.SameSignals(in, l) || sample.SpoiltSignals(in) {
			t.Errorf("%s: what was handed in changes with the answer", what)
		}
	}
}
