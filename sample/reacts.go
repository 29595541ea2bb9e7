package sample

import (
	"slices"

	"canopy/api"
)

// Reaction is one that waits, of any kind.
func Reaction(d *Dice, h int) api.Reaction {
	r := api.Reaction{Element: h, Kind: api.ReactUpgrade + api.ReactionKind(d.Below(5)), Callback: 1 + d.Below(9)}
	switch r.Kind {
	case api.ReactUpgrade:
		r.Callback, r.Definition = 0, "x-a"
	case api.ReactAdopted:
		r.From, r.To = 1+d.Below(3), 1+d.Below(3)
	case api.ReactChanged:
		r.Local, r.Has, r.New = word(d), true, word(d)
	}
	return r
}

// Reacts are right, of elements up to n: a few queues, in any order; lists of elements that have one, or had one, some of them twice.
func Reacts(d *Dice, n int) api.Reacts {
	s := api.Reacts{Backup: some(d, n), Busy: d.Below(2) == 0}
	for h := 1; h <= n; h++ {
		if d.Below(2) == 0 {
			continue
		}
		q := api.ReactQueue{Element: h}
		for range 1 + d.Below(3) {
			q.List = append(q.List, Reaction(d, h))
		}
		s.Queues = slices.Insert(s.Queues, d.Below(len(s.Queues)+1), q)
	}
	for range d.Below(4) {
		s.Stack = append(s.Stack, some(d, n))
	}
	return s
}

// some are a few numbers from 1 to n.
func some(d *Dice, n int) []int {
	var l []int
	for range d.Below(5) {
		l = append(l, 1+d.Below(n))
	}
	return l
}

// CopyReacts has lists of its own in every part.
func CopyReacts(s api.Reacts) api.Reacts {
	c := api.Reacts{Backup: append([]int(nil), s.Backup...), Busy: s.Busy}
	for _, q := range s.Queues {
		c.Queues = append(c.Queues, api.ReactQueue{Element: q.Element, List: append([]api.Reaction(nil), q.List...)})
	}
	for _, l := range s.Stack {
		c.Stack = append(c.Stack, append([]int(nil), l...))
	}
	return c
}

// RoomyReacts is a copy that has room behind each list.
func RoomyReacts(s api.Reacts) api.Reacts {
	c := CopyReacts(s)
	for i, q := range c.Queues {
		c.Queues[i].List = roomy(q.List)
	}
	for i, l := range c.Stack {
		c.Stack[i] = roomy(l)
	}
	return api.Reacts{Queues: roomy(c.Queues), Stack: roomy(c.Stack), Backup: roomy(c.Backup), Busy: c.Busy}
}

// SameReacts goes by what lists hold, so that nil and empty ones are alike.
func SameReacts(a, b api.Reacts) bool {
	return a.Busy == b.Busy && slices.Equal(a.Backup, b.Backup) && slices.EqualFunc(a.Stack, b.Stack, slices.Equal[[]int]) &&
		slices.EqualFunc(a.Queues, b.Queues, sameQueue)
}

func sameQueue(a, b api.ReactQueue) bool {
	return a.Element == b.Element && slices.Equal(a.List, b.List)
}

// SpoilReacts writes over all lists of reactions, and over the room behind them.
func SpoilReacts(s api.Reacts) {
	for _, q := range s.Queues[:cap(s.Queues)] {
		Fill(q.List, api.Reaction{Local: spoiltValue})
	}
	for _, l := range s.Stack[:cap(s.Stack)] {
		Fill(l, spoiltHandle)
	}
	Fill(s.Queues, api.ReactQueue{Element: spoiltHandle})
	Fill(s.Stack, []int{spoiltHandle})
	Fill(s.Backup, spoiltHandle)
}

// SpoiltReacts tells whether a list of reactions, or the room behind it, was written over.
func SpoiltReacts(s api.Reacts) bool {
	queues := slices.ContainsFunc(s.Queues[:cap(s.Queues)], func(q api.ReactQueue) bool {
		return q.Element == spoiltHandle || has(q.List, api.Reaction{Local: spoiltValue})
	})
	return queues || has(s.Backup, spoiltHandle) || slices.ContainsFunc(s.Stack[:cap(s.Stack)], func(l []int) bool { return has(l, spoiltHandle) })
}
