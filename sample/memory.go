package sample

import (
	"slices"

	"canopy/api"
	"canopy/forest"
)

// What is here is for telling whether two things share memory: the one is written over, the other must stay as it is.

// The values that lists are written over with.
const (
	spoiltUnit   = 999
	spoiltHandle = 999
	spoiltKind   = 99
	spoiltValue  = "spoilt"
)

// Copy has lists of its own in every node.
func Copy(f api.Forest) api.Forest {
	var g api.Forest
	for _, n := range f.Nodes {
		g.Nodes = append(g.Nodes, copyOfNode(n))
	}
	return g
}

func copyOfNode(n api.Node) api.Node {
	n.Data = append(api.Units(nil), n.Data...)
	n.Attrs = append([]api.Attr(nil), n.Attrs...)
	n.Kids = append([]int(nil), n.Kids...)
	return n
}

// CopyChange has lists of its own.
func CopyChange(c api.Change) api.Change {
	c.Data = append(api.Units(nil), c.Data...)
	c.Added = append([]int(nil), c.Added...)
	c.Removed = append([]int(nil), c.Removed...)
	c.Made = copyOfNode(c.Made)
	return c
}

// CopyChanges has lists of its own in every change.
func CopyChanges(l []api.Change) []api.Change {
	var m []api.Change
	for _, c := range l {
		m = append(m, CopyChange(c))
	}
	return m
}

// SameChanges goes by what lists hold, so that nil and empty ones are alike.
func SameChanges(l, m []api.Change) bool { return slices.EqualFunc(l, m, SameChange) }

// SameChange holds two changes against each other in all fields.
func SameChange(a, b api.Change) bool {
	lists := slices.Equal(a.Data, b.Data) && slices.Equal(a.Added, b.Added) && slices.Equal(a.Removed, b.Removed)
	made := forest.Same(api.Forest{Nodes: []api.Node{a.Made}}, api.Forest{Nodes: []api.Node{b.Made}})
	return lists && made && a.Kind == b.Kind && a.Node == b.Node && a.Parent == b.Parent && a.Index == b.Index &&
		a.Other == b.Other && a.Doc == b.Doc && a.Offset == b.Offset && a.Count == b.Count && a.Name == b.Name &&
		a.Old == b.Old && a.Value == b.Value && a.Had == b.Had && a.Has == b.Has && a.Prev == b.Prev && a.Next == b.Next
}

// Roomy is a copy that has room behind each list: what is put behind one of them would be seen there.
func Roomy(f api.Forest) api.Forest {
	g := Copy(f)
	for i, n := range g.Nodes {
		g.Nodes[i] = roomyNode(n)
	}
	g.Nodes = roomy(g.Nodes)
	return g
}

func roomyNode(n api.Node) api.Node {
	n.Data, n.Attrs, n.Kids = roomy(n.Data), roomy(n.Attrs), roomy(n.Kids)
	return n
}

// RoomyChange is a copy that has room behind each list.
func RoomyChange(c api.Change) api.Change {
	c = CopyChange(c)
	c.Data, c.Added, c.Removed = roomy(c.Data), roomy(c.Added), roomy(c.Removed)
	c.Made = roomyNode(c.Made)
	return c
}

func roomy[L ~[]T, T any](l L) L { return slices.Grow(l, 8) }

// Fill writes over a list, and over the room behind it.
func Fill[T any](l []T, v T) {
	l = l[:cap(l)]
	for i := range l {
		l[i] = v
	}
}

// Spoil writes over all lists of a forest, and over the room behind them.
func Spoil(f api.Forest) {
	for _, n := range f.Nodes[:cap(f.Nodes)] {
		spoilNode(n)
	}
	Fill(f.Nodes, api.Node{Kind: spoiltKind})
}

func spoilNode(n api.Node) {
	Fill(n.Data, spoiltUnit)
	Fill(n.Attrs, api.Attr{Value: spoiltValue})
	Fill(n.Kids, spoiltHandle)
}

// SpoilChange writes over all lists of a change, and over the room behind them.
func SpoilChange(c api.Change) {
	Fill(c.Data, spoiltUnit)
	Fill(c.Added, spoiltHandle)
	Fill(c.Removed, spoiltHandle)
	spoilNode(c.Made)
}

// SpoilChanges writes over a list of changes, over all lists in it, and over the room behind them.
func SpoilChanges(l []api.Change) {
	for _, c := range l[:cap(l)] {
		SpoilChange(c)
	}
	Fill(l, api.Change{Value: spoiltValue})
}

// Spoilt tells whether a list of a forest, or the room behind it, was written over.
func Spoilt(f api.Forest) bool {
	return slices.ContainsFunc(f.Nodes[:cap(f.Nodes)], func(n api.Node) bool {
		return n.Kind == spoiltKind || spoiltNode(n)
	})
}

func spoiltNode(n api.Node) bool {
	return has(n.Data, spoiltUnit) || has(n.Attrs, api.Attr{Value: spoiltValue}) || has(n.Kids, spoiltHandle)
}

// SpoiltChange tells whether a list of a change, or the room behind it, was written over.
func SpoiltChange(c api.Change) bool {
	return has(c.Data, spoiltUnit) || has(c.Added, spoiltHandle) || has(c.Removed, spoiltHandle) || spoiltNode(c.Made)
}

// has looks at the room behind a list, too.
func has[T comparable](l []T, v T) bool { return slices.Contains(l[:cap(l)], v) }

// Sharing tells where a call, which is handed a forest and answers one and changes, has not new memory: "", if it has.
func Sharing(f api.Forest, call func(api.Forest) (api.Forest, []api.Change)) string {
	in := Roomy(f)
	g, l := call(in)
	forestWas, changesWere := Copy(g), CopyChanges(l)
	Spoil(in)
	if !forest.Same(g, forestWas) || !SameChanges(l, changesWere) {
		return "the answer changes with the forest that was handed in"
	}
	Spoil(g)
	if !SameChanges(l, changesWere) {
		return "the changes change with the forest that is answered"
	}
	in = Roomy(f)
	g, l = call(in)
	if within(g, l) {
		return "two lists of the answer are one"
	}
	Spoil(g)
	SpoilChanges(l)
	if Spoilt(in) || !forest.Same(in, f) {
		return "the forest that was handed in changes with the answer"
	}
	return ""
}

// within spoils an answer piece by piece, and tells whether a piece changes with one ahead of it.
func within(g api.Forest, l []api.Change) bool {
	forestWas, changesWere := Copy(g), CopyChanges(l)
	for i, n := range g.Nodes {
		spoilNode(n)
		if !forest.Same(api.Forest{Nodes: g.Nodes[i+1:]}, api.Forest{Nodes: forestWas.Nodes[i+1:]}) {
			return true
		}
	}
	for i, c := range l {
		SpoilChange(c)
		if !SameChanges(l[i+1:], changesWere[i+1:]) {
			return true
		}
	}
	return false
}
