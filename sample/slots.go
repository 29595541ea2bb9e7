package sample

import (
	"slices"

	"canopy/api"
	"canopy/forest"
)

// Slotted is a right forest of n nodes with hosts, shadow trees and slots in them, whose kids and names are such that many of them find one another.
func Slotted(d *Dice, n int) api.Forest {
	f := forest.New(true)
	for len(f.Nodes) < min(n, api.MaxNodes) {
		f = tried(f, entry(d, f))
		for range 4 {
			f = tried(f, Entrance(d, f))
		}
	}
	return f
}

// Packed is such a forest in which few nodes hang nowhere: they are put into hosts, into shadow roots, and into slots, so that slots are assigned to slots, and many have kids of their own.
func Packed(d *Dice, n int) api.Forest {
	f := Slotted(d, n)
	for h := 1; h <= len(f.Nodes); h++ {
		for range 6 {
			if f.Nodes[h-1].Parent == 0 {
				f = tried(f, packing(d, f, h))
			}
		}
	}
	return f
}

// packing is a change that puts a node into one that has a shadow root, is one, or is a slot, if it finds such: not all of them can be done.
func packing(d *Dice, f api.Forest, h int) api.Change {
	parent := 1 + d.Below(len(f.Nodes))
	for range 12 {
		if n := f.Nodes[parent-1]; n.Shadow != 0 || n.Kind == api.KindShadow || isSlot(n) {
			break
		}
		parent = 1 + d.Below(len(f.Nodes))
	}
	return api.Change{Kind: api.ChangeInsert, Node: h, Parent: parent, Index: d.Below(1 + len(f.Nodes[parent-1].Kids))}
}

func isSlot(n api.Node) bool {
	return n.Kind == api.KindElement && n.Name.Space == api.SpaceHTML && n.Name.Local == "slot"
}

// entry is a change that makes a node: a shadow root now and then, which not every element can have.
func entry(d *Dice, f api.Forest) api.Change {
	next := len(f.Nodes) + 1
	if d.Below(3) > 0 {
		return api.Change{Kind: api.ChangeMake, Node: next, Made: Player(d, f)}
	}
	made := api.Node{Kind: api.KindShadow, Mode: api.ShadowOpen + api.ShadowMode(d.Below(2)), Manual: d.Below(3) == 0}
	return api.Change{Kind: api.ChangeShadow, Node: 1 + d.Below(len(f.Nodes)), Other: next, Made: made}
}

// Player is a node that can be made in a forest: a slot, or what may be assigned to one, or neither.
func Player(d *Dice, f api.Forest) api.Node {
	n := api.Node{Doc: f.Nodes[d.Below(len(f.Nodes))].Doc}
	switch d.Below(12) {
	case 0:
		n.Kind = api.KindComment
	case 1:
		n.Kind = api.KindCData
	case 2, 3:
		n.Kind = api.KindText
	case 4, 5, 6, 7, 8:
		n.Kind, n.Name = api.KindElement, api.Name{Space: api.SpaceHTML, Local: "slot"}
	case 9:
		n.Kind, n.Name = api.KindElement, api.Name{Local: "slot"}
	default:
		n.Kind, n.Name = api.KindElement, api.Name{Space: api.SpaceHTML, Local: "div"}
	}
	if n.Kind == api.KindElement {
		n.Attrs = slotAttrs(d)
	}
	return n
}

// slotAttrs are attributes slot and name, or some that are called so and are not.
func slotAttrs(d *Dice) []api.Attr {
	var l []api.Attr
	for _, local := range []string{"slot", "name"} {
		for _, space := range []string{"urn:x", ""} {
			if d.Below(4) == 0 {
				continue
			}
			l = append(l, api.Attr{Name: api.Name{Space: space, Local: local}, Value: slotName(d)})
		}
	}
	return l
}

func slotName(d *Dice) string { return []string{"", "a", "b"}[d.Below(3)] }

// Entrance is a change that puts a node into another one, most often one that hangs nowhere into a host or a shadow root: not all of them can be done.
func Entrance(d *Dice, f api.Forest) api.Change {
	c := Insertion(d, f)
	for range 12 {
		n, parent := f.Nodes[c.Node-1], f.Nodes[c.Parent-1]
		if n.Parent == 0 && (parent.Shadow != 0 || parent.Kind == api.KindShadow) {
			break
		}
		c = Insertion(d, f)
	}
	return c
}

// Naming is a change of an attribute of an element, most often of its slot or its name: not all of them can be done.
func Naming(d *Dice, f api.Forest) api.Change {
	h := 1 + d.Below(len(f.Nodes))
	c := api.Change{Kind: api.ChangeAttr, Node: h, Name: api.Name{Local: []string{"slot", "name", "class"}[d.Below(3)]}}
	if d.Below(5) == 0 {
		c.Name.Space = "urn:x"
	}
	for _, a := range f.Nodes[h-1].Attrs {
		if a.Name == c.Name {
			c.Had, c.Old = true, a.Value
		}
	}
	if d.Below(4) > 0 {
		c.Has, c.Value = true, slotName(d)
	}
	return c
}

// Hand is what the slots of a forest were given by hand: most often kids of their host.
func Hand(d *Dice, f api.Forest) []api.Assign {
	var slots, nodes []int
	for i, n := range f.Nodes {
		switch n.Kind {
		case api.KindElement, api.KindText, api.KindCData:
			nodes = append(nodes, i+1)
		}
		if isSlot(n) {
			slots = append(slots, i+1)
		}
	}
	var hand []api.Assign
	for len(slots) > 0 && d.Below(10) > 0 {
		at := d.Below(len(slots))
		a := api.Assign{Slot: slots[at]}
		slots = slices.Delete(slots, at, at+1)
		for len(nodes) > 0 && d.Below(4) > 0 {
			at := d.Below(len(nodes))
			if near := slices.IndexFunc(nodes, func(h int) bool { return f.Nodes[h-1].Parent == hostOver(f, a.Slot) }); near >= 0 && d.Below(4) > 0 {
				at = near
			}
			a.Nodes = append(a.Nodes, nodes[at])
			nodes = slices.Delete(nodes, at, at+1)
		}
		hand = append(hand, a)
	}
	return hand
}

// hostOver is the host of the tree that a node is in; -1, if that has none, so that it is no node's parent.
func hostOver(f api.Forest, h int) int {
	for f.Nodes[h-1].Parent != 0 {
		h = f.Nodes[h-1].Parent
	}
	if host := f.Nodes[h-1].Host; host != 0 {
		return host
	}
	return -1
}
