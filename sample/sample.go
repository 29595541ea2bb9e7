// Package sample grows right forests for tests, and tells which things share memory. What it grows hangs on the number that it is given alone.
package sample

import (
	"canopy/api"
	"canopy/forest"
)

// Dice is a row of numbers that looks like none, but is the same one each time.
type Dice struct{ at uint64 }

// NewDice is the row of a number.
func NewDice(seed int) *Dice { return &Dice{uint64(seed)*2 + 1} }

// Below is the next number of the row, from 0 on and below n; 0 if there is none below it.
func (d *Dice) Below(n int) int {
	d.at = d.at*6364136223846793005 + 1442695040888963407
	if n < 1 {
		return 0
	}
	return int((d.at >> 33) % uint64(n))
}

// Grow is a right forest of n nodes (of one at least, of MaxNodes at most): documents, trees and shadow trees, and nodes that hang nowhere.
func Grow(d *Dice, n int) api.Forest {
	f := forest.New(d.Below(2) == 0)
	for len(f.Nodes) < min(n, api.MaxNodes) {
		f = grown(d, f)
		for range 4 {
			f = tried(f, Insertion(d, f))
		}
	}
	return f
}

// grown has one node more: a shadow root, if the die falls so and there is an element for it.
func grown(d *Dice, f api.Forest) api.Forest {
	next := len(f.Nodes) + 1
	if d.Below(5) == 0 {
		made := api.Node{Kind: api.KindShadow, Mode: api.ShadowOpen + api.ShadowMode(d.Below(2)), Manual: d.Below(2) == 0}
		g, why := forest.Apply(f, api.Change{Kind: api.ChangeShadow, Node: 1 + d.Below(len(f.Nodes)), Other: next, Made: made})
		if why == api.OK {
			return g
		}
	}
	return tried(f, api.Change{Kind: api.ChangeMake, Node: next, Made: Loose(d, f)})
}

func tried(f api.Forest, c api.Change) api.Forest {
	if g, why := forest.Apply(f, c); why == api.OK {
		return g
	}
	return f
}

// Insertion is a change that puts a node into another one: not all of them can be done.
func Insertion(d *Dice, f api.Forest) api.Change {
	parent := 1 + d.Below(len(f.Nodes))
	return api.Change{
		Kind: api.ChangeInsert, Node: 1 + d.Below(len(f.Nodes)), Parent: parent,
		Index: d.Below(len(f.Nodes[parent-1].Kids) + 1),
	}
}

// Loose is a node that can be made in a forest: most of them are elements and texts.
func Loose(d *Dice, f api.Forest) api.Node {
	n := api.Node{Doc: f.Nodes[d.Below(len(f.Nodes))].Doc}
	switch d.Below(16) {
	case 0:
		n.Kind, n.Doc, n.HTML = api.KindDocument, len(f.Nodes)+1, d.Below(2) == 0
	case 1:
		n.Kind, n.Name.Local, n.Public, n.System = api.KindDoctype, word(d), word(d), word(d)
	case 2:
		n.Kind = api.KindFragment
	case 3:
		n.Kind, n.Data = api.KindComment, Data(d)
	case 4:
		n.Kind, n.Name.Local, n.Data = api.KindInstruction, word(d), Data(d)
	case 5:
		n.Kind, n.Data = api.KindCData, Data(d)
	case 6, 7, 8:
		n.Kind, n.Data = api.KindText, Data(d)
	default:
		n.Kind, n.Name, n.Attrs = api.KindElement, Name(d), attrs(d)
	}
	return n
}

func attrs(d *Dice) []api.Attr {
	var l []api.Attr
	for i := range d.Below(4) {
		n := Name(d)
		n.Local = string(rune('a'+i)) + n.Local
		l = append(l, api.Attr{Name: n, Value: word(d)})
	}
	return l
}

// Name is one with a namespace, and with a prefix, now and then.
func Name(d *Dice) api.Name {
	switch d.Below(4) {
	case 0:
		return api.Name{Space: api.SpaceHTML, Local: word(d)}
	case 1:
		return api.Name{Space: api.SpaceSVG, Prefix: word(d), Local: word(d)}
	}
	return api.Name{Local: word(d)}
}

func word(d *Dice) string { return string(rune('a' + d.Below(4))) }

// Data are some units.
func Data(d *Dice) api.Units {
	var u api.Units
	for range d.Below(6) {
		u = append(u, uint16('a'+d.Below(26)))
	}
	return u
}
