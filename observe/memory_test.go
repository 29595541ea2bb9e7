package observe_test

import (
	"testing"

	"canopy/api"
	"canopy/forest"
	"canopy/observe"
	"canopy/sample"
)

// handed is all that is handed to a call, in memory with room behind each list.
type handed struct {
	f       api.Forest
	w       api.Watch
	o       api.Options
	changes []api.Change
}

// rich is a watch of which each list has something in it.
func rich(t *testing.T) handed {
	t.Helper()
	f := named(sample.Tree(`a(b(#"xy") c)`), 3, local("p"), "1")
	filter := api.Options{Filters: true, Filter: []string{"p", "q"}, OldAttr: api.SaidYes, OldData: api.SaidYes, Subtree: true, Kids: true}
	w := watching(t, f, 3, asks{1, 1, filter}, asks{2, 1, filter}, asks{1, 2, filter}, asks{3, 5, filter})
	for i := range w.Queues {
		w.Queues[i] = []api.Record{{Kind: api.RecordTree, Target: 2, Added: []int{3}, Removed: []int{4}}, {Kind: api.RecordData, Target: 4, Has: true, OldData: api.Units{'w'}}}
	}
	w.Regs = append(w.Regs, api.Registration{Id: w.Next, Observer: 3, Node: 1, Options: w.Regs[0].Options, Source: 4})
	w.Next++
	changes := []api.Change{
		removing(3, 2, 0), {Kind: api.ChangeTree, Parent: 2, Removed: []int{3}, Added: []int{5}},
		{Kind: api.ChangeAttr, Node: 3, Name: local("p"), Had: true, Old: "1"},
		{Kind: api.ChangeData, Node: 4, Offset: 1, Count: 1}, {Kind: api.ChangeData, Node: 4, Data: api.Units{'z'}},
		{Kind: api.ChangeTree, Parent: 3, Removed: []int{4}, Added: []int{4}},
	}
	return handed{f, w, filter, changes}
}

func (h handed) roomy() handed {
	var l []api.Change
	for _, c := range h.changes {
		l = append(l, sample.RoomyChange(c))
	}
	o := h.o
	o.Filter = append(make([]string, 0, 9), o.Filter...)
	return handed{sample.Roomy(h.f), sample.RoomyWatch(h.w), o, l}
}

func (h handed) spoil() {
	sample.Spoil(h.f)
	sample.SpoilWatch(h.w)
	sample.Fill(h.o.Filter, "spoilt")
	sample.SpoilChanges(h.changes)
}

func (h handed) same(g handed) bool {
	return forest.Same(h.f, g.f) && sample.SameWatch(h.w, g.w) && sample.SameOptions(h.o, g.o) && sample.SameChanges(h.changes, g.changes)
}

func (h handed) spoilt() bool {
	for _, c := range h.changes {
		if sample.SpoiltChange(c) {
			return true
		}
	}
	room := h.o.Filter[:cap(h.o.Filter)]
	return sample.Spoilt(h.f) || sample.SpoiltWatch(h.w) || room[0] == "spoilt" || room[len(room)-1] == "spoilt"
}

// answered is what calls answer: a watch, and records as if they were those of one more.
type answered struct{ watch, more api.Watch }

// calls are all that answer lists.
func calls() map[string]func(handed) answered {
	return map[string]func(handed) answered{
		"New":        func(h handed) answered { w, _, _ := observe.New(h.w); return answered{watch: w} },
		"Disconnect": func(h handed) answered { w, _ := observe.Disconnect(h.w, 2); return answered{watch: w} },
		"Observe":    func(h handed) answered { w, _ := observe.Observe(h.f, h.w, 3, 4, h.o); return answered{watch: w} },
		"Observe, again": func(h handed) answered {
			w, _ := observe.Observe(h.f, h.w, 3, 5, h.o)
			return answered{watch: w}
		},
		"Settle": func(h handed) answered {
			o, _ := observe.Settle(h.o)
			return answered{watch: api.Watch{Regs: []api.Registration{{Options: o}}}}
		},
		"Take": func(h handed) answered {
			w, l, _ := observe.Take(h.w, 1)
			return answered{w, api.Watch{Queues: [][]api.Record{l}}}
		},
		"Notify": func(h handed) answered {
			w, l, _ := observe.Notify(h.w)
			a := answered{watch: w}
			for _, n := range l {
				a.more.Queues = append(a.more.Queues, n.Records)
			}
			return a
		},
		"Fold": func(h handed) answered { w, _ := observe.Fold(h.f, h.w, h.changes); return answered{watch: w} },
		"Fold of none": func(h handed) answered {
			w, _ := observe.Fold(h.f, h.w, nil)
			return answered{watch: w}
		},
	}
}

// wantApart sees that no two lists of an answer are one: it is written over piece by piece, and what is still to come stays as it was.
func wantApart(t *testing.T, what string, w, was api.Watch) {
	t.Helper()
	for i := range w.Regs {
		sample.Fill(w.Regs[i].Options.Filter, "spoilt")
		w.Regs[i], was.Regs[i] = api.Registration{}, api.Registration{}
		if !sample.SameWatch(w, was) {
			t.Fatalf("%s: two lists of the answer are one", what)
		}
	}
	for i, queue := range w.Queues {
		for j := range queue {
			for _, fill := range []func(*api.Record){
				func(r *api.Record) { sample.Fill(r.Added, 99); r.Added = nil },
				func(r *api.Record) { sample.Fill(r.Removed, 99); r.Removed = nil },
				func(r *api.Record) { sample.Fill(r.OldData, 99); r.OldData = nil },
			} {
				fill(&queue[j])
				fill(&was.Queues[i][j])
				if !sample.SameWatch(w, was) {
					t.Fatalf("%s: two lists of the answer are one", what)
				}
			}
		}
		sample.Fill(queue, api.Record{Target: 99})
		sample.Fill(was.Queues[i][:len(queue):len(queue)], api.Record{Target: 99})
		if !sample.SameWatch(w, was) {
			t.Fatalf("%s: two queues of the answer are one", what)
		}
	}
}

// P24.5: what each call answers is new memory, in all its lists; what is handed in is neither changed nor kept.
func TestMemory(t *testing.T) {
	whole := rich(t)
	for what, call := range calls() {
		in := whole.roomy()
		a := call(in)
		if !in.same(whole) || in.spoilt() {
			t.Errorf("%s: what was handed in is another one", what)
		}
		watch, more := sample.CopyWatch(a.watch), sample.CopyWatch(a.more)
		if len(watch.Regs) == 0 {
			t.Errorf("%s: nothing is answered", what)
		}
		in.spoil()
		if !sample.SameWatch(a.watch, watch) || !sample.SameWatch(a.more, more) {
			t.Errorf("%s: the answer changes with what was handed in", what)
		}
		in = whole.roomy()
		a = call(in)
		sample.SpoilWatch(a.watch)
		if !sample.SameWatch(a.more, more) {
			t.Errorf("%s: the records change with the watch", what)
		}
		sample.SpoilWatch(a.more)
		if in.spoilt() || !in.same(whole) {
			t.Errorf("%s: what was handed in changes with the answer", what)
		}
		a = call(whole.roomy())
		wantApart(t, what, a.watch, watch)
		wantApart(t, what, a.more, more)
	}
}

// P24.5: what is queued for several observers, and registrations that come of one, have lists of their own.
func TestMemoryHasSomethingToShare(t *testing.T) {
	whole := rich(t)
	v := folded(t, whole.f, whole.w, whole.changes...)
	if len(v.Regs) < 8 || len(v.Regs[len(v.Regs)-1].Options.Filter) != 2 {
		t.Error("too few registrations:", writtenRegs(v))
	}
	wantQueues(t, "of the changes", v,
		`2(+3-4)0,0 4"w= 2(+5-3)0,0 3[p=1] 4"xy= 4"x= 3(+4-4)0,0`, `2(+3-4)0,0 4"w= 2(+5-3)0,0 3[p=1] 4"xy= 4"x= 3(+4-4)0,0`, `2(+3-4)0,0 4"w= 2(+5-3)0,0 3[p=1] 4"xy= 4"x= 3(+4-4)0,0`)
}
