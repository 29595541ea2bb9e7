package sample_test

import (
	"testing"

	"canopy/api"
	"canopy/sample"
)

// Plays are the same each time, have each op, and what is none, and name, most often, what may be there.
func TestPlays(t *testing.T) {
	ops, count := map[api.Op]int{}, map[string]int{}
	for seed := range 900 {
		s := sample.Play(sample.NewDice(seed))
		if !sample.SameScript(s, sample.Play(sample.NewDice(seed))) {
			t.Errorf("seed %d: another play", seed)
		}
		tally(count, "little fuel", s.Fuel < 40)
		tally(count, "much fuel", s.Fuel > 200)
		tally(count, "many programs", len(s.Programs) > 3)
		for _, l := range append(s.Programs, s.Commands) {
			tally(count, "empty programs", len(l) == 0)
			for _, c := range l {
				ops[min(c.Op, api.OpCount)]++
				tally(count, "nodes that may be there", c.Op == api.OpInsert && c.A >= 1 && c.A < 20)
				tally(count, "nodes of none", c.Op == api.OpInsert && (c.A < 1 || c.A > 40))
				tally(count, "programs of none", c.Op == api.OpMicro && (c.M < 1 || c.M > len(s.Programs)))
				tally(count, "numbers of 32 bits", c.Op == api.OpIterate && c.N == 1<<32-1)
				tally(count, "numbers of more", c.Op == api.OpData && c.N >= 1<<32)
				tally(count, "numbers below 0", c.Op == api.OpDispatch && c.N < 0)
			}
		}
	}
	for op := api.OpNone; op <= api.OpCount; op++ {
		if ops[op] < 20 {
			t.Error("too few of an op:", op, ops[op])
		}
	}
	for what, n := range count {
		if n < 10 {
			t.Error("too few:", what, n)
		}
	}
}
