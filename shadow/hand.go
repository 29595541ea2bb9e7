package shadow

import (
	"slices"

	"canopy/api"
	"canopy/slots"
)

// there tells whether each of some handles is of a node.
func there(f api.Forest, handles ...int) bool {
	return !slices.ContainsFunc(handles, func(h int) bool { return h < 1 || h > len(f.Nodes) })
}

// all tells whether each of some nodes is such.
func all(f api.Forest, such func(api.Forest, int) bool, handles ...int) bool {
	return !slices.ContainsFunc(handles, func(h int) bool { return !such(f, h) })
}

// wrong is why what is given by hand is not right in a right forest. Each thing is asked of the whole list ahead of the next one.
func wrong(f api.Forest, hand []api.Assign) api.Errno {
	if len(hand) > api.MaxList || slices.ContainsFunc(hand, func(a api.Assign) bool { return len(a.Nodes) > api.MaxList }) {
		return api.ErrMany
	}
	if slices.ContainsFunc(hand, func(a api.Assign) bool { return !there(f, a.Slot) || !there(f, a.Nodes...) }) {
		return api.ErrRange
	}
	given, nodes := make([]bool, len(f.Nodes)+1), make([]bool, len(f.Nodes)+1)
	for _, a := range hand {
		if !slots.Is(f, a.Slot) || !all(f, slots.Slottable, a.Nodes...) || !marked(given, a.Slot) || !marked(nodes, a.Nodes...) {
			return api.ErrType
		}
	}
	return api.OK
}

// marked marks some handles, and tells whether none of them was marked.
func marked(marks []bool, handles ...int) bool {
	for _, h := range handles {
		if marks[h] {
			return false
		}
		marks[h] = true
	}
	return true
}

// given is what is given by hand, once a slot was given nodes. Entries that come to nothing stay.
func given(hand []api.Assign, slot int, nodes []int) []api.Assign {
	mine := map[int]int{} // how often each node stands in the list
	var own []int
	for _, h := range nodes {
		if mine[h]++; mine[h] == 1 {
			own = append(own, h)
		}
	}
	var list []api.Assign
	for _, a := range hand {
		if a.Slot == slot {
			continue
		}
		rest := slices.DeleteFunc(slices.Clone(a.Nodes), func(h int) bool { return mine[h] > 0 })
		list = append(list, api.Assign{Slot: a.Slot, Nodes: rest})
	}
	return append(list, api.Assign{Slot: slot, Nodes: own})
}
