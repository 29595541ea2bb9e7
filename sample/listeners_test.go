package sample_test

import (
	"slices"
	"testing"

	"canopy/api"
	"canopy/listen"
	"canopy/sample"
)

// What listeners are grown is right, the same each time, with gaps between the Ids; there are many of each kind.
func TestListeners(t *testing.T) {
	most, once, passive, gaps := 0, 0, 0, 0
	for seed := range 200 {
		l := sample.Listeners(sample.NewDice(seed), seed%40)
		again := sample.Listeners(sample.NewDice(seed), seed%40)
		if why := listen.Check(l); why != api.OK || len(l.List) > seed%40 || !slices.Equal(l.List, again.List) || l.Next != again.Next {
			t.Errorf("seed %d: %v, error %d", seed, l, why)
		}
		most, gaps = max(most, len(l.List)), gaps+l.Next-1-len(l.List)
		for _, x := range l.List {
			if x.Once {
				once++
			}
			if x.Passive == api.PassiveOn {
				passive++
			}
		}
	}
	if most < 20 || once < 200 || passive < 200 || gaps < 200 {
		t.Error("too few of a kind:", most, once, passive, gaps)
	}
}

// The copy with room is the same list, in other memory.
func TestRoomyListeners(t *testing.T) {
	l := sample.Listeners(sample.NewDice(1), 9)
	was := slices.Clone(l.List)
	r := sample.RoomyListeners(l)
	if !slices.Equal(r.List, l.List) || r.Next != l.Next || cap(r.List) < len(r.List)+8 {
		t.Error(r, l)
	}
	sample.Fill(r.List, api.Listener{Id: 999})
	if !slices.Equal(l.List, was) {
		t.Error("the list changes with its copy")
	}
}
