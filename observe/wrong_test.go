package observe_test

import (
	"math"
	"testing"

	"canopy/api"
	"canopy/observe"
	"canopy/sample"
)

// errorsAlone are the errors of all calls that are handed no forest; none may answer anything beside one.
func errorsAlone(w api.Watch, observer int) map[string]api.Errno {
	v, n, newWhy := observe.New(w)
	left, discWhy := observe.Disconnect(w, observer)
	rest, records, takeWhy := observe.Take(w, observer)
	empty, notices, notifyWhy := observe.Notify(w)
	return map[string]api.Errno{
		"New":        beside(newWhy, n == 0 && zero(v)),
		"Disconnect": beside(discWhy, zero(left)),
		"Take":       beside(takeWhy, zero(rest) && records == nil),
		"Notify":     beside(notifyWhy, zero(empty) && notices == nil),
	}
}

// errorsIn are the errors of all calls that are handed a forest.
func errorsIn(f api.Forest, w api.Watch, observer, node int, o api.Options, l []api.Change) map[string]api.Errno {
	v, observeWhy := observe.Observe(f, w, observer, node, o)
	u, foldWhy := observe.Fold(f, w, l)
	return map[string]api.Errno{"Check": observe.Check(f, w), "Observe": beside(observeWhy, zero(v)), "Fold": beside(foldWhy, zero(u))}
}

// beside is an error, or one that there is not, if something else is answered beside it.
func beside(why api.Errno, nothing bool) api.Errno {
	if why != api.OK && !nothing {
		return 99
	}
	return why
}

func zero(w api.Watch) bool { return w.Regs == nil && w.Next == 0 && w.Queues == nil }

func wantAll(t *testing.T, what string, got map[string]api.Errno, want api.Errno) {
	t.Helper()
	for call, why := range got {
		if why != want {
			t.Errorf("%s: %s: error %d; want %d", what, call, why, want)
		}
	}
}

// with has a watch of three registrations turned.
func with(turn func(w *api.Watch)) api.Watch {
	w := regs(9, 3, 5, 7)
	turn(&w)
	return w
}

// options has the second registration have others.
func options(o api.Options) api.Watch {
	return with(func(w *api.Watch) { w.Regs[1].Options = o })
}

// notRight are watches that are not right, each for one reason, in any forest and by themselves.
func notRight() map[string]api.Watch {
	many := fullOfRegs()
	many.Regs = append(many.Regs, api.Registration{Id: many.Next, Observer: 1, Node: 8, Options: kids})
	many.Next++
	long := make([][]api.Record, 2)
	long[1] = make([]api.Record, api.MaxRecords+1)
	yes, no := api.SaidYes, api.SaidNo
	return map[string]api.Watch{
		"too many observers":       {Queues: make([][]api.Record, api.MaxObservers+1)},
		"too many records":         {Queues: long},
		"too many registrations":   many,
		"Next below 0":             {Next: -1},
		"Next beyond":              {Next: api.MaxRegIds + 1},
		"Next far beyond":          {Next: math.MaxInt},
		"Next 0 of some":           regs(0, 1),
		"Next 0, an Id of 0":       regs(0, 0),
		"an Id of 0":               regs(9, 0, 3),
		"an Id below 0":            regs(9, -1, 3),
		"an Id of Next":            regs(9, 3, 9),
		"an Id beyond Next":        regs(9, 3, 10),
		"the Id MaxRegIds":         regs(api.MaxRegIds, 3, api.MaxRegIds),
		"one Id of two":            regs(9, 3, 3),
		"Ids that fall":            regs(9, 5, 3),
		"Ids that fall later":      regs(9, 3, 5, 4),
		"no observer":              with(func(w *api.Watch) { w.Regs[1].Observer = 0 }),
		"an observer below 0":      with(func(w *api.Watch) { w.Regs[0].Observer = -1 }),
		"an observer beyond":       with(func(w *api.Watch) { w.Regs[2].Observer = 4 }),
		"no observers at all":      with(func(w *api.Watch) { w.Queues = nil }),
		"no node":                  with(func(w *api.Watch) { w.Regs[1].Node = 0 }),
		"a node below 0":           with(func(w *api.Watch) { w.Regs[1].Node = math.MinInt }),
		"a Source of its own":      with(func(w *api.Watch) { w.Regs[1].Source = 5 }),
		"a Source beyond":          with(func(w *api.Watch) { w.Regs[1].Source = 6 }),
		"a Source below 0":         with(func(w *api.Watch) { w.Regs[1].Source = -1 }),
		"asked for twice":          with(func(w *api.Watch) { w.Regs[2].Observer = 1 }),
		"twice, otherwise":         with(func(w *api.Watch) { w.Regs[2].Observer, w.Regs[2].Options = 2, every }),
		"options that are none":    options(api.Options{}),
		"Subtree alone":            options(api.Options{Subtree: true}),
		"a Said that is none":      options(api.Options{Kids: true, Data: api.SaidCount}),
		"Attrs not settled":        options(api.Options{Kids: true, OldAttr: yes}),
		"Attrs not settled, no":    options(api.Options{Kids: true, OldAttr: no}),
		"a filter not settled":     options(api.Options{Kids: true, Filters: true}),
		"Data not settled":         options(api.Options{Kids: true, OldData: yes}),
		"Data not settled, no":     options(api.Options{Kids: true, OldData: no}),
		"names without a filter":   options(api.Options{Kids: true, Filter: []string{"a"}}),
		"too many names":           options(api.Options{Attrs: yes, Filters: true, Filter: make([]string, api.MaxList+1)}),
		"the old one without it":   options(api.Options{Kids: true, Attrs: no, OldAttr: yes}),
		"old data without data":    options(api.Options{Kids: true, Data: no, OldData: yes}),
		"a filter without Attrs":   options(api.Options{Kids: true, Attrs: no, Filters: true}),
		"a Source, else the same":  with(func(w *api.Watch) { w.Regs[1].Source, w.Regs[2].Observer = 3, 1 }),
		"not right, of no records": {Next: 2, Regs: []api.Registration{{}}},
	}
}

// P24.1 to P24.4: a watch that is not right is refused by each call, ahead of all but a forest that is not.
func TestNotRight(t *testing.T) {
	f := sample.Tree("a(b(c d e f g))")
	for what, w := range notRight() {
		was := sample.CopyWatch(w)
		for _, observer := range []int{1, 2, 0, -1, 99} {
			wantAll(t, what, errorsAlone(w, observer), api.ErrState)
			wantAll(t, what, errorsIn(f, w, observer, observer, kids, []api.Change{{Kind: 99}}), api.ErrState)
		}
		wantAll(t, what, errorsIn(f, w, 1, 1, api.Options{}, make([]api.Change, api.MaxList+1)), api.ErrState)
		wantAll(t, what, errorsIn(f, w, 1, 1, every, nil), api.ErrState)
		if !sample.SameWatch(w, was) {
			t.Errorf("%s: what was handed in is changed", what)
		}
	}
}

// P24.1: in a forest the nodes are those that there are.
func TestNodesOfAForest(t *testing.T) {
	f, w := sample.Tree("a"), regs(9, 3, 5, 7)
	wantAll(t, "the last node", errorsIn(f, w, 1, 1, kids, nil), api.OK)
	for _, h := range []int{3, 4, math.MaxInt} {
		v := sample.CopyWatch(w)
		v.Regs[1].Node = h
		wantAll(t, "one beyond", errorsIn(f, v, 1, 1, kids, nil), api.ErrState)
		wantAll(t, "by itself", errorsAlone(v, 1), api.OK)
	}
	wantAll(t, "no nodes", errorsIn(api.Forest{}, w, 1, 1, kids, nil), api.ErrState)
	if why := observe.Check(api.Forest{}, api.Watch{}); why != api.OK {
		t.Error("nothing at all:", why)
	}
}

// P24.1, P24.2, P24.4: a forest that is not right is refused ahead of all else.
func TestForestFirst(t *testing.T) {
	for _, f := range sample.Torn() {
		for _, w := range []api.Watch{{}, regs(9, 3, 5), {Next: -1}} {
			wantAll(t, "torn", errorsIn(f, w, 1, 1, kids, nil), api.ErrForest)
			wantAll(t, "torn, and more", errorsIn(f, w, 0, -1, api.Options{}, []api.Change{{Kind: 99}}), api.ErrForest)
		}
	}
}

// P24.1: no more than MaxObservers.
func TestTooManyObservers(t *testing.T) {
	w := api.Watch{Queues: make([][]api.Record, api.MaxObservers)}
	if v, n, why := observe.New(w); why != api.ErrMany || n != 0 || !zero(v) {
		t.Error(n, why)
	}
	w.Next = -1
	if v, n, why := observe.New(w); why != api.ErrState || n != 0 || !zero(v) {
		t.Error("not right besides:", n, why)
	}
}

// P24.2: who observes what, then by which options, then whether there is room.
func TestObserveErrors(t *testing.T) {
	f := sample.Tree("a(b c d)")
	full, spent := fullOfRegs(), regs(api.MaxRegIds, 1, 2)
	for what, w := range map[string]api.Watch{"few": regs(9, 3, 5), "as many as may be": full, "no Id is left": spent} {
		for _, x := range []struct {
			observer, node int
			o              api.Options
			want           api.Errno
		}{
			{0, 1, kids, api.ErrRange}, {-1, 1, kids, api.ErrRange}, {len(w.Queues) + 1, 1, kids, api.ErrRange}, {math.MaxInt, 1, kids, api.ErrRange},
			{1, 0, kids, api.ErrRange}, {1, -1, kids, api.ErrRange}, {1, 6, kids, api.ErrRange}, {1, math.MinInt, kids, api.ErrRange},
			{0, 1, api.Options{}, api.ErrRange}, {1, 6, api.Options{Filter: make([]string, api.MaxList+1)}, api.ErrRange},
			{1, 5, api.Options{}, api.ErrType}, {1, 5, api.Options{Subtree: true}, api.ErrType}, {1, 2, api.Options{Kids: true, Attrs: 3}, api.ErrType},
			{1, 5, api.Options{Filter: make([]string, api.MaxList+1)}, api.ErrMany}, {1, 2, api.Options{Filter: make([]string, api.MaxList+1), Attrs: 3}, api.ErrMany},
		} {
			if v, why := observe.Observe(f, w, x.observer, x.node, x.o); why != x.want || !zero(v) {
				t.Errorf("%s: Observe of %d at %d: error %d; want %d", what, x.observer, x.node, why, x.want)
			}
		}
		v, why := observe.Observe(f, w, 1, 5, kids)
		if room := what == "few"; room != (why == api.OK) || !room && (why != api.ErrMany || !zero(v)) {
			t.Errorf("%s: one more: error %d", what, why)
		}
		if _, why := observe.Observe(f, w, 1, 2, kids); why != api.OK {
			t.Errorf("%s: of what is observed: error %d", what, why)
		}
	}
}

// P24.3: an observer that is none.
func TestNoObserver(t *testing.T) {
	for _, w := range []api.Watch{{}, regs(9, 3, 5), fullOfRegs()} {
		for _, observer := range []int{0, -1, len(w.Queues) + 1, math.MaxInt, math.MinInt} {
			got := errorsAlone(w, observer)
			if got["Disconnect"] != api.ErrRange || got["Take"] != api.ErrRange || got["Notify"] != api.OK {
				t.Errorf("%d of %d: %v", observer, len(w.Queues), got)
			}
		}
	}
}

// P24.4: changes that forest.All refuses, ahead of queues and lists that are full.
func TestFoldErrors(t *testing.T) {
	f := sample.Tree(`a(b #"x")`)
	w := watching(t, f, 1, asks{1, 1, every})
	full := sample.CopyWatch(w)
	full.Queues[0], full.Next = make([]api.Record, api.MaxRecords), api.MaxRegIds
	bad := map[string]api.Change{
		"no kind":                    {},
		"no such kind":               {Kind: api.ChangeCount},
		"no node":                    {Kind: api.ChangeRemove, Node: 9, Parent: 2},
		"another place":              removing(3, 2, 1),
		"no attribute":               {Kind: api.ChangeAttr, Node: 3, Name: local("p"), Had: true, Old: "1"},
		"an attribute of a text":     setting(4, local("p")),
		"data of an element":         {Kind: api.ChangeData, Node: 3},
		"more data than there are":   {Kind: api.ChangeData, Node: 4, Count: 2},
		"told of a node that is not": {Kind: api.ChangeTree, Parent: 9},
		"a field too many":           {Kind: api.ChangeTree, Parent: 2, Node: 3},
	}
	for what, c := range bad {
		for _, v := range []api.Watch{{}, w, full} {
			for _, l := range [][]api.Change{{c}, {telling(2), c}, {telling(2), removing(3, 2, 0), c, telling(2)}} {
				if got, why := observe.Fold(f, v, l); why != api.ErrRange || !zero(got) {
					t.Errorf("%s: error %d", what, why)
				}
			}
		}
	}
	for _, v := range []api.Watch{{}, w, full} {
		if got, why := observe.Fold(f, v, make([]api.Change, api.MaxList+1)); why != api.ErrMany || !zero(got) {
			t.Error("too many changes:", why)
		}
	}
	made := api.Change{Kind: api.ChangeMake, Node: api.MaxNodes + 1, Made: api.Node{Kind: api.KindText, Doc: 1}}
	if got, why := observe.Fold(sample.Flat(api.MaxNodes), w, []api.Change{made}); why != api.ErrMany || !zero(got) {
		t.Error("too many nodes:", why)
	}
	for what, l := range map[string][]api.Change{"a queue": {telling(2)}, "the Ids": {removing(3, 2, 0)}} {
		if got, why := observe.Fold(f, full, l); why != api.ErrMany || !zero(got) {
			t.Errorf("%s: error %d", what, why)
		}
	}
}
