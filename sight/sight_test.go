package sight_test

import (
	"testing"

	"canopy/api"
	"canopy/order"
	"canopy/sample"
	"canopy/sight"
)

// Roots, and what holds what, are as package order tells.
func TestAsOrder(t *testing.T) {
	for seed := range 60 {
		f := sample.Packed(sample.NewDice(seed), 2+seed%24)
		s := sight.Of(f)
		for a := 1; a <= len(f.Nodes); a++ {
			root, _ := order.Root(f, a)
			shadow := root
			if f.Nodes[root-1].Kind != api.KindShadow {
				shadow = 0
			}
			if s.Root(a) != root || s.Shadow(a) != shadow {
				t.Fatalf("seed %d: the root of %d is %d, %d; want %d", seed, a, s.Root(a), s.Shadow(a), root)
			}
			for b := 1; b <= len(f.Nodes); b++ {
				if holds, _ := order.Holds(f, a, b); s.Holds(a, b) != holds {
					t.Fatalf("seed %d: %d holds %d: %v", seed, a, b, !holds)
				}
			}
		}
	}
}

// A node is seen as itself from within its shadow tree, from elsewhere as its host; what is none as none.
func TestFrom(t *testing.T) {
	s := sight.Of(sample.Tree("a(b{c(d){e}}) ~(f)"))
	for _, x := range []struct{ a, b, want int }{
		{0, 1, 0}, {0, 8, 0}, {2, 8, 2}, {5, 6, 5}, {5, 8, 5}, {5, 3, 3}, {5, 10, 3}, {8, 6, 5}, {8, 9, 3}, {4, 1, 3}, {4, 4, 4}, {10, 8, 10},
	} {
		if got := s.From(x.b, x.a); got != x.want {
			t.Errorf("from %d %d is seen as %d, not %d", x.b, x.a, got, x.want)
		}
	}
}
