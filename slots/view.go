package slots

// View is what of a shadow tree is looked at: all of its slots, or those that have some names, or, where they are given nodes by hand, some slots.
type View struct {
	Root  int
	all   bool
	names map[string]int
	slots map[int]int
}

// Whole looks at all slots of a shadow root.
func Whole(root int) View { return View{Root: root, all: true} }

// Some looks at those slots of a shadow root that it is told of; of the root 0 there are none.
func Some(root int) View { return View{Root: root, names: map[string]int{}, slots: map[int]int{}} }

// WithName looks at the slots of a name, too.
func (v View) WithName(name string) View {
	v.names[name]++
	return v
}

// WithSlot looks at a slot, too, if nodes are given by hand.
func (v View) WithSlot(slot int) View {
	v.slots[slot]++
	return v
}

// Slots is how many slots it was told of.
func (v View) Slots() int { return len(v.slots) }

func (v View) hasName(name string) bool { return v.all || v.names[name] > 0 }

func (v View) hasSlot(slot int) bool { return v.all || v.slots[slot] > 0 }

// Assigned is, by the slot, what is assigned to the slots that are looked at. It is new memory.
func (s Scene) Assigned(v View) map[int][]int {
	switch {
	case v.Root == 0:
		return nil
	case s.Node(v.Root).Manual:
		return s.byHand(v)
	}
	return s.byName(v)
}

func (s Scene) byHand(v View) map[int][]int {
	nodes, host := map[int][]int{}, s.Node(v.Root).Host
	for slot := range s.Within(v.Root) {
		if !v.hasSlot(slot) {
			continue
		}
		for _, h := range s.given[slot] {
			if s.Node(h).Parent == host {
				nodes[slot] = append(nodes[slot], h)
			}
		}
	}
	return nodes
}

func (s Scene) byName(v View) map[int][]int {
	nodes, first := map[int][]int{}, map[string]int{}
	for slot := range s.Within(v.Root) {
		name := s.Name(slot)
		if v.hasName(name) && first[name] == 0 {
			first[name] = slot
		}
	}
	for _, kid := range s.Node(s.Node(v.Root).Host).Kids {
		if slot := first[s.Wish(kid)]; slot != 0 && Slottable(s.Forest, kid) {
			nodes[slot] = append(nodes[slot], kid)
		}
	}
	return nodes
}
