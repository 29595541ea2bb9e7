package iterate_test

import (
	"math"
	"slices"
	"testing"
	"time"

	"canopy/api"
	"canopy/forest"
	"canopy/iterate"
	"canopy/sample"
)

// wantRefused sees that every call that is handed an iterator answers an error alone.
func wantRefused(t *testing.T, what string, f api.Forest, it api.Iterator, why api.Errno) {
	t.Helper()
	if no := iterate.Check(f, it); no != why {
		t.Errorf("%s: Check: error %d, want %d", what, no, why)
	}
	if got, h, no := iterate.Next(f, it); no != why || h != 0 || !isZero(got) {
		t.Errorf("%s: Next: %+v, %d, error %d; want error %d", what, got, h, no, why)
	}
	if got, h, no := iterate.Prev(f, it); no != why || h != 0 || !isZero(got) {
		t.Errorf("%s: Prev: %+v, %d, error %d; want error %d", what, got, h, no, why)
	}
	for _, node := range []int{2, 0, 99} {
		if got, no := iterate.Removing(f, it, node); no != why || !isZero(got) {
			t.Errorf("%s: Removing: %+v, error %d; want error %d", what, got, no, why)
		}
	}
	right := api.Iterator{Root: 1, Ref: 1}
	for _, l := range [][]api.Iterator{{it}, {right, it}, {it, right}} {
		for _, changes := range [][]api.Change{nil, {{}}, make([]api.Change, api.MaxList+1)} {
			wantFoldRefused(t, what, f, l, changes, why)
		}
	}
}

func wantFoldRefused(t *testing.T, what string, f api.Forest, l []api.Iterator, changes []api.Change, why api.Errno) {
	t.Helper()
	if got, no := iterate.Fold(f, l, changes); no != why || got != nil {
		t.Errorf("%s: Fold: %+v, error %d; want error %d", what, got, no, why)
	}
}

func isZero(it api.Iterator) bool { return same(it, api.Iterator{}) && it.Filter.Rules == nil }

// filters are some by the error that they are.
func filters() map[api.Errno]api.Filter {
	fine := slices.Repeat([]api.Rule{{Verdict: api.VerdictAccept}}, api.MaxRules+1)
	return map[api.Errno]api.Filter{
		api.ErrMany: {Show: api.ShowAll, Rules: append(fine[:api.MaxRules:api.MaxRules], api.Rule{})},
		api.ErrType: {Show: api.ShowAll, Rules: append(fine[:api.MaxRules-1:api.MaxRules-1], api.Rule{Verdict: 4})},
		api.OK:      {Show: api.ShowAll, Rules: fine[:api.MaxRules:api.MaxRules]},
	}
}

// P14.1 to P14.4: a forest that is not right goes ahead of all, whatever else is wrong.
func TestTornForest(t *testing.T) {
	for _, f := range sample.Torn() {
		for _, flt := range filters() {
			for _, h := range []int{1, 3, 0, -1, 99999} {
				wantRefused(t, "a torn forest", f, api.Iterator{Root: h, Ref: h, Filter: flt}, api.ErrForest)
				if it, why := iterate.New(f, h, flt); why != api.ErrForest || !isZero(it) {
					t.Errorf("New: %+v, error %d", it, why)
				}
			}
		}
		wantFoldRefused(t, "too many iterators, too", f, make([]api.Iterator, api.MaxList+1), nil, api.ErrForest)
		wantFoldRefused(t, "nothing else", f, nil, nil, api.ErrForest)
	}
}

// P14.1: then a Root that is no node, then a filter that is wrong, then a Ref that is no node, or that Root does not contain.
func TestWrongIterators(t *testing.T) {
	f := sample.Tree(family)
	for wrong, flt := range filters() {
		for _, h := range []int{0, -1, 12, math.MaxInt, math.MinInt} {
			for _, ref := range []int{1, 2, 0, h} {
				wantRefused(t, "a root that is no node", f, api.Iterator{Root: h, Ref: ref, Filter: flt}, api.ErrRange)
			}
			if it, why := iterate.New(f, h, flt); why != api.ErrRange || !isZero(it) {
				t.Errorf("New at %d: %+v, error %d", h, it, why)
			}
			why := wrong
			if why == api.OK {
				why = api.ErrRange
			}
			wantRefused(t, "a ref that is no node", f, api.Iterator{Root: 2, Ref: h, Before: true, Filter: flt}, why)
		}
		for _, x := range [][2]string{{"b", "e"}, {"b", "a"}, {"b", "/"}, {"c", "d"}, {"e", "j"}, {"f", "i"}, {"i", "e"}} {
			why := wrong
			if why == api.OK {
				why = api.ErrRange
			}
			wantRefused(t, "a ref outside the root", f, stand(x[0], ">", x[1], flt), why)
		}
		it, why := iterate.New(f, 2, flt)
		if why != wrong || (why == api.OK) == isZero(it) {
			t.Errorf("New: %+v, error %d, want %d", it, why, wrong)
		}
		if why := iterate.Check(f, stand("a", ">", "h", flt)); why != wrong {
			t.Errorf("Check: error %d, want %d", why, wrong)
		}
	}
	wantRefused(t, "a forest of none", api.Forest{}, api.Iterator{}, api.ErrRange)
}

// Words: a Ref in the shadow tree of the root is not contained by it.
func TestRefInShadow(t *testing.T) {
	f := sample.Tree("a")
	f.Nodes[1].Shadow = 3
	f.Nodes = append(f.Nodes, api.Node{Kind: api.KindShadow, Doc: 1, Host: 2, Mode: api.ShadowOpen})
	wantRefused(t, "a ref in a shadow tree", f, api.Iterator{Root: 2, Ref: 3}, api.ErrRange)
	wantRefused(t, "a ref that is the host", f, api.Iterator{Root: 3, Ref: 2}, api.ErrRange)
	if why := iterate.Check(f, api.Iterator{Root: 3, Ref: 3}); why != api.OK {
		t.Error(why)
	}
}

// P14.3: a node that is none is ErrRange, behind Check's errors.
func TestRemovingNoNode(t *testing.T) {
	f := sample.Tree(family)
	for _, h := range []int{0, -1, 12, math.MaxInt, math.MinInt} {
		if it, why := iterate.Removing(f, stand("a", ">", "b", showAll()), h); why != api.ErrRange || !isZero(it) {
			t.Errorf("Removing of %d: %+v, error %d", h, it, why)
		}
	}
}

// P14.4: ErrMany goes ahead of what is wrong with iterators, the first of these ahead of the others, and all of them ahead of the changes.
func TestFoldErrors(t *testing.T) {
	f := sample.Tree(family)
	right, wrong := stand("a", ">", "b", showAll()), filters()
	none, many, typed := stand("b", ">", "a", showAll()), stand("a", ">", "b", wrong[api.ErrMany]), stand("a", ">", "b", wrong[api.ErrType])
	full := slices.Repeat([]api.Iterator{right}, api.MaxList)
	bad := []api.Change{cut(t, f, 3), cut(t, f, 3)}
	for _, x := range []struct {
		what    string
		l       []api.Iterator
		changes []api.Change
		why     api.Errno
	}{
		{"one iterator too many", append(full[:api.MaxList:api.MaxList], right), nil, api.ErrMany},
		{"one too many, and wrong ones", append([]api.Iterator{none, typed}, full...), bad, api.ErrMany},
		{"the last one of MaxList is wrong", append(full[:api.MaxList-1:api.MaxList-1], typed), bad, api.ErrType},
		{"first no ref", []api.Iterator{right, none, typed, many}, bad, api.ErrRange},
		{"first a verdict", []api.Iterator{right, typed, many, none}, bad, api.ErrType},
		{"first many rules", []api.Iterator{right, many, none, typed}, bad, api.ErrMany},
		{"the second change can't be done", []api.Iterator{right}, bad, api.ErrRange},
		{"a change of no kind", []api.Iterator{right}, []api.Change{cut(t, f, 3), {}}, api.ErrRange},
		{"a change of another kind's field", nil, []api.Change{{Kind: api.ChangeRemove, Node: 3, Parent: 2, Offset: 1}}, api.ErrRange},
		{"a removal from another parent", full, []api.Change{{Kind: api.ChangeRemove, Node: 3, Parent: 6}}, api.ErrRange},
		{"a removal of no node", full, []api.Change{{Kind: api.ChangeRemove, Node: 99, Parent: 2}}, api.ErrRange},
		{"changes, one too many", nil, slices.Repeat([]api.Change{{Kind: api.ChangeTree}}, api.MaxList+1), api.ErrMany},
	} {
		wantFoldRefused(t, x.what, f, x.l, x.changes, x.why)
	}
	stuffed := sample.Flat(api.MaxNodes)
	more := []api.Change{cut(t, stuffed, 3), {Kind: api.ChangeMake, Node: api.MaxNodes + 1, Made: api.Node{Kind: api.KindText, Doc: 1}}}
	wantFoldRefused(t, "one node too many", stuffed, []api.Iterator{right}, more, api.ErrMany)
}

// P14.4: MaxList iterators are folded, and MaxList changes.
func TestFoldLimits(t *testing.T) {
	f := sample.Tree(family)
	changes := slices.Repeat([]api.Change{{Kind: api.ChangeTree}}, api.MaxList)
	changes[api.MaxList-1] = cut(t, f, handle("e"))
	full := slices.Repeat([]api.Iterator{stand("a", ">", "g", showAll())}, api.MaxList)
	got, why := iterate.Fold(f, full, changes)
	if why != api.OK || len(got) != api.MaxList {
		t.Fatalf("%d iterators, error %d", len(got), why)
	}
	for _, it := range got {
		if !same(it, stand("a", ">", "j", showAll())) {
			t.Fatalf("%+v", it)
		}
	}
}

func roomyRules(n int) []api.Rule {
	return slices.Grow(slices.Repeat([]api.Rule{{Local: "b", Verdict: api.VerdictSkip}}, n), 8)
}

// P14.5: neither the forest, nor the filter, nor a list is changed, and what is answered shares no memory with them.
func TestNewMemory(t *testing.T) {
	f := sample.Tree(family)
	spoilt := api.Rule{Local: "spoilt", Verdict: api.VerdictSkip}
	at := func(rules []api.Rule) api.Iterator {
		return api.Iterator{Root: 2, Ref: 2, Filter: api.Filter{Show: api.ShowAll, Rules: rules}}
	}
	one := func(it api.Iterator, _ int, _ api.Errno) api.Iterator { return it }
	two := func(it api.Iterator, _ api.Errno) api.Iterator { return it }
	for what, do := range map[string]func(api.Forest, []api.Rule) api.Iterator{
		"New":  func(f api.Forest, r []api.Rule) api.Iterator { return two(iterate.New(f, 2, at(r).Filter)) },
		"Next": func(f api.Forest, r []api.Rule) api.Iterator { return one(iterate.Next(f, at(r))) },
		"Prev": func(f api.Forest, r []api.Rule) api.Iterator { return one(iterate.Prev(f, at(r))) },
		"Next to none": func(f api.Forest, r []api.Rule) api.Iterator {
			it := at(r)
			it.Ref = 11
			return one(iterate.Next(f, it))
		},
		"Removing": func(f api.Forest, r []api.Rule) api.Iterator { return two(iterate.Removing(f, at(r), 3)) },
		"Fold": func(f api.Forest, r []api.Rule) api.Iterator {
			l, _ := iterate.Fold(f, []api.Iterator{at(r)}, []api.Change{cut(t, f, 3)})
			return l[0]
		},
		"Fold of none": func(f api.Forest, r []api.Rule) api.Iterator {
			l, _ := iterate.Fold(f, []api.Iterator{at(r)}, nil)
			return l[0]
		},
	} {
		in, rules := sample.Roomy(f), roomyRules(2)
		got := do(in, rules)
		if !forest.Same(in, f) || !slices.Equal(rules, roomyRules(2)) || !slices.Equal(got.Filter.Rules, roomyRules(2)) {
			t.Errorf("%s: what is handed in changes, or the rules are others", what)
		}
		sample.Fill(rules, spoilt)
		if !slices.Equal(got.Filter.Rules, roomyRules(2)) {
			t.Errorf("%s: the answer changes with the rules that were handed in", what)
		}
		rules = roomyRules(2)
		sample.Fill(do(in, rules).Filter.Rules, spoilt)
		if sample.Spoilt(in) || slices.Contains(rules[:cap(rules)], spoilt) {
			t.Errorf("%s: what was handed in changes with the answer", what)
		}
	}
}

// P14.5: Fold's list and its iterators' rules are new ones, also where two iterators have one list of rules; the lists that are handed in stay as they are.
func TestFoldMemory(t *testing.T) {
	f := sample.Tree(family)
	spoilt := api.Rule{Local: "spoilt", Verdict: api.VerdictSkip}
	rules := roomyRules(1)
	it := api.Iterator{Root: 2, Ref: 3, Filter: api.Filter{Rules: rules}}
	l := slices.Grow([]api.Iterator{it, it}, 4)
	changes := []api.Change{
		sample.RoomyChange(api.Change{Kind: api.ChangeTree, Parent: 2, Added: []int{3}, Removed: []int{3}}), sample.RoomyChange(cut(t, f, 3)),
	}
	in, were := sample.Roomy(f), sample.CopyChanges(changes)
	got, why := iterate.Fold(in, l, changes)
	if why != api.OK || len(got) != 2 || got[0].Ref != 2 {
		t.Fatalf("%+v, error %d", got, why)
	}
	if !forest.Same(in, f) || !same(l[0], it) || !same(l[1], it) || !sample.SameChanges(changes, were) {
		t.Error("what is handed in changes")
	}
	sample.Fill(got[0].Filter.Rules, spoilt)
	if !slices.Equal(got[1].Filter.Rules, rules) || slices.Contains(rules[:cap(rules)], spoilt) {
		t.Error("two iterators have one list of rules")
	}
	sample.Fill(got, api.Iterator{Root: 99})
	if slices.ContainsFunc(l[:cap(l)], func(it api.Iterator) bool { return it.Root == 99 }) {
		t.Error("the list that was handed in changes with the answer")
	}
	got, _ = iterate.Fold(in, l, changes)
	sample.Spoil(in)
	sample.SpoilChanges(changes)
	sample.Fill(l, api.Iterator{Root: 99})
	if got[0].Ref != 2 || got[0].Root != 2 || got[1].Ref != 2 {
		t.Error("the answer changes with what was handed in")
	}
}

// swaps are MaxList changes that take two kids of a parent away and put them back, turn by turn: the one that stands first goes to the end.
func swaps(parent, a, b int) []api.Change {
	var l []api.Change
	for i := range api.MaxList / 2 {
		h := []int{a, b}[i%2]
		l = append(l, api.Change{Kind: api.ChangeRemove, Node: h, Parent: parent}, api.Change{Kind: api.ChangeInsert, Node: h, Parent: parent, Index: 1})
	}
	return l
}

// twins is a document whose element has two deep kids, of which the second one begins with the node that is told.
func twins() (api.Forest, int) {
	f := sample.Deep(api.MaxNodes)
	half := api.MaxNodes / 2
	f.Nodes[half-1].Parent = 2
	f.Nodes[half-2].Kids = nil
	f.Nodes[1].Kids = []int{3, half}
	return f, half
}

// P1: MaxList iterators in the greatest forests, flat and deep, come through MaxList changes soon.
func TestGreatFold(t *testing.T) {
	started := time.Now()
	two, half := twins()
	for what, x := range map[string]struct {
		f       api.Forest
		changes []api.Change
	}{
		"deep": {two, swaps(2, 3, half)},
		"flat": {sample.Flat(api.MaxNodes), slices.Repeat([]api.Change{{Kind: api.ChangeRemove, Node: 4, Parent: 2, Index: 1}, {Kind: api.ChangeInsert, Node: 4, Parent: 2, Index: 1}}, api.MaxList/2)},
	} {
		var l []api.Iterator
		for i := range api.MaxList {
			l = append(l, api.Iterator{Root: 1, Ref: i%api.MaxNodes + 1, Before: i%3 == 0, Filter: showAll()})
		}
		got, why := iterate.Fold(x.f, l, x.changes)
		if why != api.OK || len(got) != len(l) {
			t.Errorf("%s: %d iterators, error %d", what, len(got), why)
		}
	}
	if took := time.Since(started); took > time.Minute {
		t.Error("it takes too long:", took)
	}
}

// P1: a filter that shows nothing has the greatest forests gone through soon, there and back, by one call.
func TestGreatSteps(t *testing.T) {
	started := time.Now()
	for _, f := range []api.Forest{sample.Flat(api.MaxNodes), sample.Deep(api.MaxNodes)} {
		for range 20 {
			it := api.Iterator{Root: 1, Ref: 1, Before: true, Filter: filters()[api.OK]}
			it.Filter.Show = 0
			got, h, why := iterate.Next(f, it)
			if why != api.OK || h != 0 || !same(got, it) {
				t.Errorf("Next: %d, error %d", h, why)
			}
			it.Ref, it.Before = api.MaxNodes, false
			if got, h, why = iterate.Prev(f, it); why != api.OK || h != 0 || !same(got, it) {
				t.Errorf("Prev: %d, error %d", h, why)
			}
		}
	}
	if took := time.Since(started); took > time.Minute {
		t.Error("it takes too long:", took)
	}
}
