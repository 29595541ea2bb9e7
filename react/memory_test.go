package react_test

import (
	"slices"
	"testing"

	"canopy/api"
	"canopy/forest"
	"canopy/react"
	"canopy/sample"
)

// handed is all that is handed to a call, in memory with room behind each list.
type handed struct {
	f       api.Forest
	s       api.Reacts
	reg     api.Registry
	l       []int
	changes []api.Change
}

// rich is something of which each list has something in it.
func rich() handed {
	f := attributed(sample.Cast("a(x(y) x)"), 3, "p", "r", "q")
	s := api.Reacts{
		Queues: []api.ReactQueue{queue(3, 2), queue(5, 1), queue(9, 2)},
		Stack:  lists([]int{3}, []int{5, 9}, []int{3, 5}), Backup: []int{7, 3, 5}, Busy: true,
	}
	changes := []api.Change{
		removing(3, 2, 0), {Kind: api.ChangeTree, Parent: 2, Removed: []int{3}, Added: []int{5}}, inserting(3, 5, 0),
		{Kind: api.ChangeAttr, Node: 3, Name: local("p"), Had: true, Old: "1"},
		{Kind: api.ChangeMake, Node: 6, Made: api.Node{Kind: api.KindElement, Name: api.Name{Space: api.SpaceHTML, Local: "x-b"}, Doc: 1, Attrs: []api.Attr{{Name: local("p")}}}},
		inserting(6, 2, 0),
	}
	return handed{f, s, wanting(3, 5), []int{8, 3, 9, 5}, changes}
}

func (h handed) roomy() handed {
	var changes []api.Change
	for _, c := range h.changes {
		changes = append(changes, sample.RoomyChange(c))
	}
	return handed{sample.Roomy(h.f), sample.RoomyReacts(h.s), sample.RoomyRegistry(h.reg), append(make([]int, 0, 9), h.l...), changes}
}

func (h handed) spoil() {
	sample.Spoil(h.f)
	sample.SpoilReacts(h.s)
	sample.SpoilRegistry(h.reg)
	sample.Fill(h.l, 999)
	sample.SpoilChanges(h.changes)
}

func (h handed) same(g handed) bool {
	return forest.Same(h.f, g.f) && sample.SameReacts(h.s, g.s) && sample.SameRegistry(h.reg, g.reg) && slices.Equal(h.l, g.l) && sample.SameChanges(h.changes, g.changes)
}

func (h handed) spoilt() bool {
	return sample.Spoilt(h.f) || sample.SpoiltReacts(h.s) || sample.SpoiltRegistry(h.reg) || slices.Contains(h.l[:cap(h.l)], 999) ||
		slices.ContainsFunc(h.changes, sample.SpoiltChange)
}

// answered is what calls answer: reactions, and elements.
type answered struct {
	s api.Reacts
	l []int
}

func (a answered) copied() answered { return answered{sample.CopyReacts(a.s), slices.Clone(a.l)} }

func (a answered) same(b answered) bool { return sample.SameReacts(a.s, b.s) && slices.Equal(a.l, b.l) }

// calls are all that answer lists.
func calls() map[string]func(handed) answered {
	unstacked := func(h handed) api.Reacts { h.s.Stack = nil; return h.s }
	return map[string]func(handed) answered{
		"Push": func(h handed) answered { s, _ := react.Push(h.s); return answered{s: s} },
		"Pop":  func(h handed) answered { s, l, _ := react.Pop(h.s); return answered{s, l} },
		"Tell": func(h handed) answered {
			s, _, _ := react.Tell(h.s, h.reg, api.Reaction{Element: 3, Kind: api.ReactConnected})
			return answered{s: s}
		},
		"Tell, in Backup": func(h handed) answered {
			s, _, _ := react.Tell(unstacked(h), h.reg, api.Reaction{Element: 3, Kind: api.ReactConnected})
			return answered{s: s}
		},
		"Tell nothing": func(h handed) answered {
			s, _, _ := react.Tell(h.s, h.reg, api.Reaction{Element: 4, Kind: api.ReactConnected})
			return answered{s: s}
		},
		"Try":          func(h handed) answered { s, _, _ := react.Try(h.f, h.s, h.reg, 4); return answered{s: s} },
		"Started":      func(h handed) answered { s, _, _ := react.Started(h.f, h.s, h.reg, 3); return answered{s: s} },
		"Fold":         func(h handed) answered { s, _, _ := react.Fold(h.f, h.s, h.reg, h.changes); return answered{s: s} },
		"Fold of none": func(h handed) answered { s, _, _ := react.Fold(h.f, h.s, h.reg, nil); return answered{s: s} },
		"Fold, in Backup": func(h handed) answered {
			s, _, _ := react.Fold(h.f, unstacked(h), h.reg, h.changes)
			return answered{s: s}
		},
		"Take": func(h handed) answered { s, l, _, _, _ := react.Take(h.s, h.l); return answered{s, l} },
		"Take, the last": func(h handed) answered {
			s, l, _, _, _ := react.Take(h.s, h.l[3:])
			return answered{s, l}
		},
		"Take of Backup": func(h handed) answered { s, l, _, _, _ := react.Take(h.s, h.s.Backup); return answered{s, l} },
		"Take of none":   func(h handed) answered { s, l, _, _, _ := react.Take(h.s, h.l[:1]); return answered{s, l} },
		"Backup":         func(h handed) answered { s, _, _, _ := react.Backup(h.s); return answered{s: s} },
		"Backup of none": func(h handed) answered {
			h.s.Backup = h.s.Backup[:1]
			s, _, _, _ := react.Backup(h.s)
			return answered{s: s}
		},
	}
}

// wantApart sees that no two lists of an answer are one: it is written over piece by piece, and what is still to come stays as it was.
func wantApart(t *testing.T, what string, a, was answered) {
	t.Helper()
	same := func() {
		t.Helper()
		if !a.same(was) {
			t.Fatalf("%s: two lists of the answer are one", what)
		}
	}
	for i, q := range a.s.Queues {
		sample.Fill(q.List, api.Reaction{Local: "spoilt"})
		a.s.Queues[i], was.s.Queues[i] = api.ReactQueue{}, api.ReactQueue{}
		same()
	}
	for i, l := range a.s.Stack {
		sample.Fill(l, 999)
		a.s.Stack[i], was.s.Stack[i] = nil, nil
		same()
	}
	sample.Fill(a.s.Backup, 999)
	a.s.Backup, was.s.Backup = nil, nil
	same()
}

// P26.6: what each call answers is new memory, in all its lists; what is handed in is neither changed nor kept.
func TestMemory(t *testing.T) {
	whole := rich()
	for what, call := range calls() {
		in := whole.roomy()
		a := call(in)
		was := a.copied()
		if !in.same(whole) || in.spoilt() {
			t.Errorf("%s: what was handed in is another one", what)
		}
		if len(a.s.Queues) == 0 {
			t.Errorf("%s: nothing is answered", what)
		}
		in.spoil()
		if !a.same(was) {
			t.Errorf("%s: the answer changes with what was handed in", what)
		}
		in = whole.roomy()
		a = call(in)
		sample.SpoilReacts(a.s)
		if !slices.Equal(a.l, was.l) {
			t.Errorf("%s: the elements change with the reactions", what)
		}
		sample.Fill(a.l, 999)
		if in.spoilt() || !in.same(whole) {
			t.Errorf("%s: what was handed in changes with the answer", what)
		}
		wantApart(t, what, call(whole.roomy()), was)
	}
}
