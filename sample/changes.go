package sample

import (
	"slices"

	"canopy/api"
	"canopy/forest"
)

// Change is one of any kind: not all of them can be done.
func Change(d *Dice, f api.Forest) api.Change {
	h, next := 1+d.Below(len(f.Nodes)), len(f.Nodes)+1
	n := f.Nodes[h-1]
	switch d.Below(12) {
	case 0:
		return api.Change{Kind: api.ChangeMake, Node: next, Made: Loose(d, f)}
	case 1:
		return api.Change{Kind: api.ChangeShadow, Node: h, Other: next, Made: api.Node{Kind: api.KindShadow, Mode: api.ShadowClosed}}
	case 2:
		return api.Change{Kind: api.ChangeAdopt, Node: h, Doc: f.Nodes[d.Below(len(f.Nodes))].Doc}
	case 3, 4:
		offset := d.Below(len(n.Data) + 1)
		return api.Change{Kind: api.ChangeData, Node: h, Offset: offset, Count: d.Below(len(n.Data) - offset + 1), Data: Data(d)}
	case 5, 6:
		return Naming(d, f)
	case 7:
		return api.Change{Kind: api.ChangeTree, Parent: d.Below(len(f.Nodes) + 1), Added: []int{h}, Removed: n.Kids, Prev: n.Parent, Next: d.Below(2)}
	case 8, 9:
		if n.Parent != 0 {
			return api.Change{Kind: api.ChangeRemove, Node: h, Parent: n.Parent, Index: slices.Index(f.Nodes[n.Parent-1].Kids, h)}
		}
	}
	return Insertion(d, f)
}

// Changes are those of n that can be done, one behind the other.
func Changes(d *Dice, f api.Forest, n int) []api.Change {
	var l []api.Change
	for range n {
		c := Change(d, f)
		if g, why := forest.Apply(f, c); why == api.OK {
			f, l = g, append(l, c)
		}
	}
	return l
}
