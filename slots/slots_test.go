package slots_test

import (
	"slices"
	"testing"

	"canopy/api"
	"canopy/order"
	"canopy/sample"
	"canopy/shadow"
	"canopy/slots"
)

// Slots, slottables, names, and which shadow root is at a node, over it.
func TestNodes(t *testing.T) {
	f := sample.Tree("h(p:a - # = /.b:c){/.a d(/)} ~(/)")
	s := slots.Of(f, []api.Assign{{Slot: 9, Nodes: []int{3, 5}}})
	for h := 1; h <= len(f.Nodes); h++ {
		is, can := slices.Contains([]int{7, 9, 11, 13}, h), !slices.Contains([]int{1, 4, 8, 12}, h)
		if slots.Is(f, h) != is || slots.Slottable(f, h) != can {
			t.Errorf("%d: a slot: %v, a slottable: %v", h, slots.Is(f, h), slots.Slottable(f, h))
		}
		at, over, giver := 0, 0, 0
		if h >= 8 && h <= 11 {
			at = 8
		}
		if h >= 3 && h <= 7 {
			over = 8
		}
		if h == 3 || h == 5 {
			giver = 9
		}
		if s.At(h) != at || s.Over(h) != over || s.Giver(h) != giver || s.Node(h) != &f.Nodes[h-1] {
			t.Errorf("%d: at %d, over %d, giver %d", h, s.At(h), s.Over(h), s.Giver(h))
		}
	}
	if s.Name(7) != "b" || s.Wish(7) != "c" || s.Name(9) != "a" || s.Wish(9) != "" || s.Wish(5) != "" || s.Name(11) != "" {
		t.Error("names")
	}
	svg := sample.Tree("/")
	svg.Nodes[1].Name.Space = api.SpaceSVG
	if slots.Is(svg, 2) || slots.Is(sample.Tree("a"), 2) {
		t.Error("what is no slot is one")
	}
}

// Slots within a node are yielded in tree order, as far as they are asked for.
func TestWithin(t *testing.T) {
	s := slots.Of(sample.Tree("a(b(/(/) c) /{/})"), nil)
	if got := slices.Collect(s.Within(1)); !slices.Equal(got, []int{4, 5, 7}) {
		t.Error(got)
	}
	for slot := range s.Within(1) {
		if slot != 4 {
			t.Error("it goes on:", slot)
		}
		break
	}
}

// A view has what is assigned to the slots that it was told of, and nothing of others.
func TestViews(t *testing.T) {
	for text, hand := range map[string][]api.Assign{
		"h(p:a q r:a){/.a /.b /.a /}":      nil,
		"h(p:b q:a r:b){*/.a /.b /.c /.d}": {{Slot: 7, Nodes: []int{3, 5}}, {Slot: 10, Nodes: []int{4, 7}}},
	} {
		s := slots.Of(sample.Tree(text), hand)
		if all := s.Assigned(slots.Whole(6)); len(all) != 2 || !slices.Equal(all[7], []int{3, 5}) || !slices.Equal(all[10], []int{4}) {
			t.Error(text, all)
		}
		if some := s.Assigned(slots.Some(6).WithName("a").WithSlot(7)); len(some) != 1 || !slices.Equal(some[7], []int{3, 5}) {
			t.Error(text, some)
		}
		if v := slots.Some(6).WithSlot(8).WithSlot(9).WithName("b"); len(s.Assigned(v)) != 0 || v.Slots() != 2 {
			t.Error(text, s.Assigned(v))
		}
		if none := s.Assigned(slots.Some(0).WithName("")); len(none) != 0 {
			t.Error(text, none)
		}
	}
}

// What is told of all slots at once, and of one, is what package shadow tells.
func TestAsShadow(t *testing.T) {
	nodes := 0
	for seed := range 150 {
		d := sample.NewDice(seed)
		f := sample.Packed(d, 2+d.Below(30))
		hand := sample.Hand(d, f)
		s := slots.Of(f, hand)
		to, of := s.Everywhere()
		for h := 1; h <= len(f.Nodes); h++ {
			if slot, why := shadow.Slot(f, hand, h, false); why != api.OK || of[h] != slot || s.Slot(h) != slot {
				t.Fatalf("seed %d: the slot of %d is %d, %d; want %d", seed, h, of[h], s.Slot(h), slot)
			}
			if !slots.Is(f, h) {
				continue
			}
			if want, why := shadow.Assigned(f, hand, h); why != api.OK || !slices.Equal(to[h], want) || !slices.Equal(s.To(h), want) {
				t.Fatalf("seed %d: to %d there are %v, %v; want %v", seed, h, to[h], s.To(h), want)
			}
			if root, _ := order.Root(f, h); (f.Nodes[root-1].Kind == api.KindShadow) != (s.At(h) == root) {
				t.Fatalf("seed %d: %d is in the tree of %d", seed, h, s.At(h))
			}
			nodes += len(to[h])
		}
	}
	if nodes < 200 {
		t.Error("too few:", nodes)
	}
}
