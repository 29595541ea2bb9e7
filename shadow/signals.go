package shadow

import (
	"maps"
	"slices"

	"canopy/api"
	"canopy/draft"
)

// signals are the slots that must be told of changes that can be done, one behind the other.
func (s scene) signals(changes []api.Change) []int {
	d, told := draft.Of(s.forest), map[int]int{}
	var list []int
	for _, c := range changes {
		s.forest = d.Forest
		views := s.touched(c)
		was := s.seen(views)
		d.Follow(c)
		s.forest = d.Forest
		for _, slot := range append(turned(was, s.seen(views)), s.bare(c)...) {
			if told[slot]++; told[slot] == 1 {
				list = append(list, slot)
			}
		}
	}
	return list
}

// touched is where something else may be assigned behind a change: in the shadow tree of the host whose kid comes, goes or wishes for another slot, and in that within which slots come, go or have another name. All else stays as it is, so that it needs not be looked at.
func (s scene) touched(c api.Change) []view {
	switch {
	case moves(c):
		return []view{s.viewOfKid(c), s.viewOfSlots(c)}
	case c.Kind != api.ChangeAttr || c.Name.Space != "":
		return nil
	case c.Name.Local == "slot":
		return []view{viewOf(s.shadowOver(c.Node)).withName(c.Old).withName(c.Value)}
	case c.Name.Local == "name" && isSlot(s.forest, c.Node):
		return []view{viewOf(s.shadowAt(c.Node)).withName(c.Old).withName(c.Value)}
	}
	return nil
}

// moves tells whether a change has a node come or go.
func moves(c api.Change) bool { return c.Kind == api.ChangeInsert || c.Kind == api.ChangeRemove }

// viewOfKid is what is to be looked at of a host's shadow tree where a kid of it comes or goes.
func (s scene) viewOfKid(c api.Change) view {
	return viewOf(s.node(c.Parent).Shadow).withName(s.wishOf(c.Node)).withSlot(s.giving[c.Node])
}

// viewOfSlots is what is to be looked at of a shadow tree where a node comes or goes, with all slots within it.
func (s scene) viewOfSlots(c api.Change) view {
	v := viewOf(0)
	for slot := range s.slots(c.Node) {
		v = v.withName(s.nameOf(slot)).withSlot(slot)
	}
	if len(v.slots) > 0 {
		v.root = s.shadowAt(c.Parent)
	}
	return v
}

// seen is, by the slot, what is assigned where it is looked: no two views are of one tree.
func (s scene) seen(views []view) map[int][]int {
	nodes := map[int][]int{}
	for _, v := range views {
		maps.Copy(nodes, s.assigned(v))
	}
	return nodes
}

// turned are the slots, by rising handles, that have something else in one map than in the other one.
func turned(was, is map[int][]int) []int {
	slots := slices.Concat(slices.Collect(maps.Keys(was)), slices.Collect(maps.Keys(is)))
	slots = slices.DeleteFunc(slots, func(slot int) bool { return slices.Equal(was[slot], is[slot]) })
	slices.Sort(slots)
	return slices.Compact(slots)
}

// bare is the slot whose own kids a change turned, if nothing is assigned to it, so that they are seen there.
func (s scene) bare(c api.Change) []int {
	if !moves(c) || !isSlot(s.forest, c.Parent) || s.shadowAt(c.Parent) == 0 || len(s.assignedTo(c.Parent)) > 0 {
		return nil
	}
	return []int{c.Parent}
}
