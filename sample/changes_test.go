package sample_test

import (
	"testing"

	"canopy/api"
	"canopy/forest"
	"canopy/sample"
)

// Changes can be done, are the same each time, and there are many of each kind but those that join texts.
func TestChanges(t *testing.T) {
	kinds := map[api.ChangeKind]int{}
	for seed := range 100 {
		made := func() (api.Forest, []api.Change) {
			d := sample.NewDice(seed)
			f := sample.Thick(d, 1+seed%12)
			return f, sample.Changes(d, f, 40)
		}
		f, l := made()
		_, again := made()
		if _, _, why := forest.All(f, l); why != api.OK || len(l) > 40 || !sample.SameChanges(l, again) {
			t.Errorf("seed %d: error %d", seed, why)
		}
		for _, c := range l {
			kinds[c.Kind]++
		}
	}
	for k := api.ChangeMake; k < api.ChangeCount; k++ {
		if k != api.ChangeSplit && k != api.ChangeMerge && kinds[k] < 50 {
			t.Error("too few of a kind:", k, kinds[k])
		}
	}
}
