package sample_test

import (
	"slices"
	"testing"

	"canopy/api"
	"canopy/forest"
	"canopy/sample"
	"canopy/shadow"
)

// What is grown with slots is right, of so many nodes, the same each time; what they are given by hand is right, and much of it, and of what they are named for, is assigned.
func TestSlotted(t *testing.T) {
	byHand, byName, empty := 0, 0, 0
	for seed := range 200 {
		n := seed % 40
		d := sample.NewDice(seed)
		f := sample.Slotted(d, n)
		hand := sample.Hand(d, f)
		if why, at := forest.Check(f); why != api.OK || len(f.Nodes) != max(1, n) {
			t.Errorf("seed %d: %d nodes, error %d at %d", seed, len(f.Nodes), why, at)
		}
		again := sample.NewDice(seed)
		if !forest.Same(f, sample.Slotted(again, n)) || !slices.EqualFunc(hand, sample.Hand(again, f), sameAssign) {
			t.Errorf("seed %d: another forest", seed)
		}
		for i, n := range f.Nodes {
			if n.Kind != api.KindShadow {
				continue
			}
			l, why := shadow.All(f, hand, i+1)
			if why != api.OK {
				t.Fatalf("seed %d: error %d", seed, why)
			}
			for _, a := range l {
				if len(a.Nodes) == 0 {
					empty++
				} else if n.Manual {
					byHand += len(a.Nodes)
				} else {
					byName += len(a.Nodes)
				}
			}
		}
	}
	if byHand < 50 || byName < 300 || empty < 300 {
		t.Error("too few of a kind:", byHand, byName, empty)
	}
}

// What is packed is right, of so many nodes, the same each time, and few nodes hang nowhere; many slots have kids, or are kids of hosts.
func TestPacked(t *testing.T) {
	hanging, loose, within, kids := 0, 0, 0, 0
	for seed := range 100 {
		f := sample.Packed(sample.NewDice(seed), 30)
		if why, at := forest.Check(f); why != api.OK || len(f.Nodes) != 30 || !forest.Same(f, sample.Packed(sample.NewDice(seed), 30)) {
			t.Errorf("seed %d: %d nodes, error %d at %d", seed, len(f.Nodes), why, at)
		}
		for _, n := range f.Nodes {
			slot := n.Name.Space == api.SpaceHTML && n.Name.Local == "slot"
			switch {
			case n.Parent != 0:
				hanging++
			case n.Host == 0:
				loose++
			}
			if slot && len(n.Kids) > 0 {
				kids++
			}
			if slot && n.Parent != 0 && f.Nodes[n.Parent-1].Shadow != 0 {
				within++
			}
		}
	}
	if hanging < 5*loose || within < 200 || kids < 200 {
		t.Error("too few of a kind:", hanging, loose, within, kids)
	}
}

func sameAssign(a, b api.Assign) bool { return a.Slot == b.Slot && slices.Equal(a.Nodes, b.Nodes) }

// Changes of attributes can most often be done to an element, and come in all kinds.
func TestNaming(t *testing.T) {
	done := map[string]int{}
	for seed := range 300 {
		d := sample.NewDice(seed)
		f := sample.Slotted(d, 12)
		c := sample.Naming(d, f)
		_, why := forest.Apply(f, c)
		switch {
		case why != api.OK:
			done["refused"]++
		case !c.Had:
			done["came"]++
		case !c.Has:
			done["went"]++
		default:
			done["turned"]++
		}
	}
	if done["came"] < 20 || done["went"] < 10 || done["turned"] < 30 {
		t.Error("too few of a kind:", done)
	}
}
