package walk_test

import (
	"math"
	"slices"
	"testing"
	"time"

	"canopy/api"
	"canopy/forest"
	"canopy/sample"
	"canopy/walk"
)

func allWays() []api.Way {
	return []api.Way{api.WayParent, api.WayFirst, api.WayLast, api.WayAhead, api.WayBehind, api.WayBack, api.WayOn}
}

func isZero(w api.Walker) bool {
	return w.Root == 0 && w.Current == 0 && w.Filter.Show == 0 && w.Filter.Rules == nil
}

// wantStepRefused sees that Step and All answer an error alone.
func wantStepRefused(t *testing.T, what string, f api.Forest, w api.Walker, way api.Way, why api.Errno) {
	t.Helper()
	if got, h, no := walk.Step(f, w, way); no != why || h != 0 || !isZero(got) {
		t.Errorf("%s: Step: %+v, %d, error %d; want error %d", what, got, h, no, why)
	}
	if l, no := walk.All(f, w, way); no != why || l != nil {
		t.Errorf("%s: All: %v, error %d; want error %d", what, l, no, why)
	}
}

// wantRefused sees that every call answers an error alone.
func wantRefused(t *testing.T, what string, f api.Forest, flt api.Filter, h int, why api.Errno) {
	t.Helper()
	if v, no := walk.Accept(f, flt, h); no != why || v != api.VerdictNone {
		t.Errorf("%s: Accept: %d, error %d; want error %d", what, v, no, why)
	}
	if w, no := walk.New(f, h, flt); no != why || !isZero(w) {
		t.Errorf("%s: New: %+v, error %d; want error %d", what, w, no, why)
	}
	for _, way := range append(allWays(), api.WayNone, api.WayCount, 255) {
		wantStepRefused(t, what, f, api.Walker{Root: h, Current: h, Filter: flt}, way, why)
	}
}

// wrongFilters are filters by the error that they are.
func wrongFilters() map[api.Errno]api.Filter {
	return map[api.Errno]api.Filter{
		api.ErrMany: {Show: api.ShowAll, Rules: make([]api.Rule, api.MaxRules+1)},
		api.ErrType: {Show: api.ShowAll, Rules: make([]api.Rule, api.MaxRules)},
		api.OK:      {Show: api.ShowAll},
	}
}

// 13.1: ErrForest goes ahead of all, then ErrRange, of Step and All that of Root and of Current.
func TestErrors(t *testing.T) {
	tree := sample.Tree("a(b c)")
	for _, flt := range wrongFilters() {
		for _, f := range sample.Torn() {
			for _, h := range []int{1, 2, 3, 4, 0, -1, 99999} {
				wantRefused(t, "a torn forest", f, flt, h, api.ErrForest)
			}
		}
		for _, h := range []int{0, -1, 5, math.MaxInt, math.MinInt} {
			wantRefused(t, "no node", tree, flt, h, api.ErrRange)
			wantRefused(t, "a forest of none", api.Forest{}, flt, h, api.ErrRange)
			for _, way := range append(allWays(), api.WayNone, api.WayCount) {
				wantStepRefused(t, "a root that is no node", tree, api.Walker{Root: h, Current: 2, Filter: flt}, way, api.ErrRange)
				wantStepRefused(t, "a current that is no node", tree, api.Walker{Root: 2, Current: h, Filter: flt}, way, api.ErrRange)
			}
		}
	}
	wantRefused(t, "a forest of none", api.Forest{}, api.Filter{}, 1, api.ErrRange)
}

// 13.1, 13.2: behind these a filter that is wrong, and last a way that is none of the seven.
func TestWrongWays(t *testing.T) {
	tree := sample.Tree("a(b c)")
	for why, flt := range wrongFilters() {
		if why != api.OK {
			wantRefused(t, "a wrong filter", tree, flt, 2, why)
			continue
		}
		for way := range 256 {
			if way := api.Way(way); !slices.Contains(allWays(), way) {
				for _, current := range []int{1, 2, 3, 4} {
					wantStepRefused(t, "no way", tree, api.Walker{Root: 2, Current: current, Filter: flt}, way, api.ErrType)
				}
			}
		}
	}
}

func sameFilter(a, b api.Filter) bool { return a.Show == b.Show && slices.Equal(a.Rules, b.Rules) }

func roomyFilter(t api.Filter) api.Filter {
	return api.Filter{Show: t.Show, Rules: slices.Grow(slices.Clone(t.Rules), 8)}
}

// 13.3: neither the forest nor the filter is changed, and what is answered shares no memory with them.
func TestNewMemory(t *testing.T) {
	f := sample.Tree("a(b(c d) # e(f g))")
	spoilt := api.Rule{Local: "spoilt", Verdict: api.VerdictSkip}
	flt := api.Filter{Show: api.ShowAll, Rules: []api.Rule{{Local: "b", Verdict: api.VerdictSkip}, {Local: "f", Verdict: api.VerdictReject}}}
	for what, do := range map[string]func(api.Forest, api.Filter) (api.Filter, []int){
		"Accept": func(f api.Forest, flt api.Filter) (api.Filter, []int) {
			walk.Accept(f, flt, 3)
			return roomyFilter(flt), nil
		},
		"New": func(f api.Forest, flt api.Filter) (api.Filter, []int) {
			w, _ := walk.New(f, 2, flt)
			return w.Filter, nil
		},
		"Step": func(f api.Forest, flt api.Filter) (api.Filter, []int) {
			w, h, _ := walk.Step(f, api.Walker{Root: 2, Current: 2, Filter: flt}, api.WayOn)
			return w.Filter, []int{h}
		},
		"Step to none": func(f api.Forest, flt api.Filter) (api.Filter, []int) {
			w, h, _ := walk.Step(f, api.Walker{Root: 2, Current: 2, Filter: flt}, api.WayParent)
			return w.Filter, []int{h}
		},
		"All": func(f api.Forest, flt api.Filter) (api.Filter, []int) {
			l, _ := walk.All(f, api.Walker{Root: 2, Current: 2, Filter: flt}, api.WayOn)
			return roomyFilter(flt), l
		},
	} {
		in, fltIn := sample.Roomy(f), roomyFilter(flt)
		got, l := do(in, fltIn)
		was := slices.Clone(l)
		if !forest.Same(in, f) || !sameFilter(fltIn, flt) || !sameFilter(got, flt) {
			t.Errorf("%s: what is handed in changes, or the filter is another one", what)
		}
		sample.Spoil(in)
		sample.Fill(fltIn.Rules, spoilt)
		if !slices.Equal(l, was) || !sameFilter(got, flt) {
			t.Errorf("%s: the answer changes with what was handed in", what)
		}
		in, fltIn = sample.Roomy(f), roomyFilter(flt)
		got, l = do(in, fltIn)
		sample.Fill(l, 999)
		sample.Fill(got.Rules, spoilt)
		if sample.Spoilt(in) || !forest.Same(in, f) || slices.Contains(fltIn.Rules[:cap(fltIn.Rules)], spoilt) {
			t.Errorf("%s: what was handed in changes with the answer", what)
		}
	}
}

// P1: the greatest forests, flat and deep, are gone through soon, every way, whatever is skipped.
func TestGreat(t *testing.T) {
	started := time.Now()
	rules := slices.Repeat([]api.Rule{{Local: "x", Verdict: api.VerdictReject}}, api.MaxRules)
	for _, f := range []api.Forest{sample.Flat(api.MaxNodes), sample.Deep(api.MaxNodes)} {
		for _, show := range []uint32{api.ShowAll, 0, 1 << (api.KindDocument - 1)} {
			for _, way := range allWays() {
				for _, current := range []int{1, 2, api.MaxNodes/2 + 1, api.MaxNodes} {
					if _, why := walk.All(f, api.Walker{Root: 1, Current: current, Filter: api.Filter{Show: show, Rules: rules}}, way); why != api.OK {
						t.Errorf("way %d from %d: error %d", way, current, why)
					}
				}
			}
		}
		l, why := walk.All(f, api.Walker{Root: 1, Current: 1, Filter: api.Filter{Show: api.ShowAll}}, api.WayOn)
		if why != api.OK || len(l) != api.MaxNodes-1 || l[0] != 2 || l[len(l)-1] != api.MaxNodes {
			t.Errorf("all the way on: %d nodes, error %d", len(l), why)
		}
	}
	if took := time.Since(started); took > time.Minute {
		t.Error("it takes too long:", took)
	}
}
