package sample_test

import (
	"testing"

	"canopy/api"
	"canopy/react"
	"canopy/sample"
)

// What reactions are grown are right, the same each time; there are many of each kind.
func TestReacts(t *testing.T) {
	count := map[string]int{}
	kinds := map[api.ReactionKind]int{}
	for seed := range 300 {
		s, again := sample.Reacts(sample.NewDice(seed), seed%9), sample.Reacts(sample.NewDice(seed), seed%9)
		if why := react.Check(s); why != api.OK || !sample.SameReacts(s, again) {
			t.Errorf("seed %d: %v, error %d, then %v", seed, s, why, again)
		}
		tally(count, "Busy", s.Busy)
		tally(count, "not Busy", !s.Busy)
		tally(count, "no Stack", len(s.Stack) == 0)
		tally(count, "Stack", len(s.Stack) > 1)
		tally(count, "Backup", len(s.Backup) > 1)
		for _, q := range s.Queues {
			tally(count, "queues", true)
			tally(count, "long queues", len(q.List) > 1)
			for _, r := range q.List {
				kinds[r.Kind]++
			}
		}
	}
	for what, n := range count {
		if n < 50 {
			t.Error("too few of a kind:", what, n)
		}
	}
	for k := api.ReactUpgrade; k < api.ReactCount; k++ {
		if kinds[k] < 100 {
			t.Error("too few of a kind:", k, kinds[k])
		}
	}
}

// wholeReacts has something in each field.
func wholeReacts() api.Reacts {
	q := api.ReactQueue{Element: 2, List: []api.Reaction{{Element: 2, Kind: api.ReactConnected, Callback: 7}}}
	return api.Reacts{Queues: []api.ReactQueue{q}, Stack: [][]int{{2, 3}}, Backup: []int{4}, Busy: true}
}

// Copies are the same, in other memory, with room behind lists or not.
func TestCopiesOfReacts(t *testing.T) {
	for _, copied := range []func(api.Reacts) api.Reacts{sample.CopyReacts, sample.RoomyReacts} {
		s := wholeReacts()
		c := copied(s)
		sample.SpoilReacts(s)
		if !sample.SameReacts(c, wholeReacts()) || sample.SpoiltReacts(c) || !sample.SpoiltReacts(s) || sample.SameReacts(c, s) {
			t.Error(s, c)
		}
	}
}

// What is written over is seen, in each list and behind it.
func TestSpoiltReacts(t *testing.T) {
	for what, write := range map[string]func(s api.Reacts){
		"Queues":  func(s api.Reacts) { sample.SpoilReacts(api.Reacts{Queues: s.Queues[1:]}) },
		"List":    func(s api.Reacts) { sample.Fill(s.Queues[0].List[1:], api.Reaction{Local: "spoilt"}) },
		"Stack":   func(s api.Reacts) { sample.SpoilReacts(api.Reacts{Stack: s.Stack[1:]}) },
		"in it":   func(s api.Reacts) { sample.Fill(s.Stack[0][2:], 999) },
		"Backup":  func(s api.Reacts) { sample.SpoilReacts(api.Reacts{Backup: s.Backup[1:]}) },
		"a queue": func(s api.Reacts) { sample.Fill(s.Queues[1:], api.ReactQueue{Element: 999}) },
	} {
		s := sample.RoomyReacts(wholeReacts())
		write(s)
		if !sample.SpoiltReacts(s) || !sample.SameReacts(s, wholeReacts()) {
			t.Error("what is written behind it is not seen:", what)
		}
	}
}

// Reactions are the same only if all their fields are.
func TestSameReacts(t *testing.T) {
	for what, turn := range map[string]func(s *api.Reacts){
		"Busy":       func(s *api.Reacts) { s.Busy = false },
		"Backup":     func(s *api.Reacts) { s.Backup = nil },
		"Stack":      func(s *api.Reacts) { s.Stack = append(s.Stack, nil) },
		"in it":      func(s *api.Reacts) { s.Stack[0][1] = 4 },
		"Queues":     func(s *api.Reacts) { s.Queues = nil },
		"Element":    func(s *api.Reacts) { s.Queues[0].Element++ },
		"List":       func(s *api.Reacts) { s.Queues[0].List = nil },
		"Kind":       func(s *api.Reacts) { s.Queues[0].List[0].Kind++ },
		"a reaction": func(s *api.Reacts) { s.Queues[0].List[0].Has = true },
	} {
		s := wholeReacts()
		turn(&s)
		if sample.SameReacts(s, wholeReacts()) {
			t.Error("the same, but for", what)
		}
	}
}
