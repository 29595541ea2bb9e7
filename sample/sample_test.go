package sample_test

import (
	"testing"

	"canopy/api"
	"canopy/forest"
	"canopy/sample"
)

// What is grown is right, of so many nodes, the same each time, and of every kind sooner or later.
func TestGrow(t *testing.T) {
	kinds, hanging, shadows := map[api.NodeKind]int{}, 0, 0
	for seed := range 200 {
		n := seed % 20
		f := sample.Grow(sample.NewDice(seed), n)
		if why, at := forest.Check(f); why != api.OK || len(f.Nodes) != max(1, n) {
			t.Errorf("seed %d: %d nodes, error %d at %d", seed, len(f.Nodes), why, at)
		}
		if !forest.Same(f, sample.Grow(sample.NewDice(seed), n)) {
			t.Errorf("seed %d: another forest", seed)
		}
		for _, n := range f.Nodes {
			kinds[n.Kind]++
			if n.Parent != 0 {
				hanging++
			}
			if n.Shadow != 0 {
				shadows++
			}
		}
	}
	if len(kinds) != 9 || hanging < 500 || shadows < 50 {
		t.Error("too few of a kind:", kinds, hanging, shadows)
	}
}

// Numbers of a row stay below what is asked, and are not always one.
func TestBelow(t *testing.T) {
	d := sample.NewDice(1)
	seen := map[int]int{}
	for range 100 {
		n := d.Below(3)
		if n < 0 || n > 2 {
			t.Error(n)
		}
		seen[n]++
	}
	if len(seen) != 3 || d.Below(0) != 0 || d.Below(-1) != 0 {
		t.Error(seen)
	}
}
