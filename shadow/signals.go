package shadow

import (
	"maps"
	"slices"

	"canopy/api"
	"canopy/draft"
	"canopy/slots"
)

// scene is what is followed through changes: a forest, and what its slots were given by hand.
type scene struct{ slots.Scene }

// signals are the slots that must be told of changes that can be done, one behind the other.
func (s scene) signals(changes []api.Change) []int {
	d, told := draft.Of(s.Forest), map[int]int{}
	var list []int
	for _, c := range changes {
		s.Forest = d.Forest
		views := s.touched(c)
		was := s.seen(views)
		d.Follow(c)
		s.Forest = d.Forest
		for _, slot := range append(turned(was, s.seen(views)), s.bare(c)...) {
			if told[slot]++; told[slot] == 1 {
				list = append(list, slot)
			}
		}
	}
	return list
}

// touched is where something else may be assigned behind a change: in the shadow tree of the host whose kid comes, goes or wishes for another slot, and in that within which slots come, go or have another name. All else stays as it is, so that it needs not be looked at.
func (s scene) touched(c api.Change) []slots.View {
	switch {
	case moves(c):
		return []slots.View{s.viewOfKid(c), s.viewOfSlots(c)}
	case c.Kind != api.ChangeAttr || c.Name.Space != "":
		return nil
	case c.Name.Local == "slot":
		return []slots.View{slots.Some(s.Over(c.Node)).WithName(c.Old).WithName(c.Value)}
	case c.Name.Local == "name" && slots.Is(s.Forest, c.Node):
		return []slots.View{slots.Some(s.At(c.Node)).WithName(c.Old).WithName(c.Value)}
	}
	return nil
}

// moves tells whether a change has a node come or go.
func moves(c api.Change) bool { return c.Kind == api.ChangeInsert || c.Kind == api.ChangeRemove }

// viewOfKid is what is to be looked at of a host's shadow tree where a kid of it comes or goes.
func (s scene) viewOfKid(c api.Change) slots.View {
	return slots.Some(s.Node(c.Parent).Shadow).WithName(s.Wish(c.Node)).WithSlot(s.Giver(c.Node))
}

// viewOfSlots is what is to be looked at of a shadow tree where a node comes or goes, with all slots within it.
func (s scene) viewOfSlots(c api.Change) slots.View {
	v := slots.Some(0)
	for slot := range s.Within(c.Node) {
		v = v.WithName(s.Name(slot)).WithSlot(slot)
	}
	if v.Slots() > 0 {
		v.Root = s.At(c.Parent)
	}
	return v
}

// seen is, by the slot, what is assigned where it is looked: no two views are of one tree.
func (s scene) seen(views []slots.View) map[int][]int {
	nodes := map[int][]int{}
	for _, v := range views {
		maps.Copy(nodes, s.Assigned(v))
	}
	return nodes
}

// turned are the slots, by rising handles, that have something else in one map than in the other one.
func turned(was, is map[int][]int) []int {
	list := slices.Concat(slices.Collect(maps.Keys(was)), slices.Collect(maps.Keys(is)))
	list = slices.DeleteFunc(list, func(slot int) bool { return slices.Equal(was[slot], is[slot]) })
	slices.Sort(list)
	return slices.Compact(list)
}

// bare is the slot whose own kids a change turned, if nothing is assigned to it, so that they are seen there.
func (s scene) bare(c api.Change) []int {
	if !moves(c) || !slots.Is(s.Forest, c.Parent) || s.At(c.Parent) == 0 || len(s.To(c.Parent)) > 0 {
		return nil
	}
	return []int{c.Parent}
}
