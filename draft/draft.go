// Package draft has a working copy of a forest, for layers that do, or follow, many small changes one behind the other: forest.Apply would go over, and copy, all of a forest for each of them.
package draft

import (
	"iter"
	"slices"

	"canopy/api"
	"canopy/forest"
)

// Draft is a right forest that is worked on, and the changes that were done to it. Whoever does one has seen that it can be done. Lists of kids are the draft's own; data and attributes may be those of the forest that was handed in, so that they are never written into.
type Draft struct {
	Forest  api.Forest
	Changes []api.Change
	first   api.Forest
}

// Of is a draft of a right forest.
func Of(f api.Forest) *Draft {
	nodes := slices.Clone(f.Nodes)
	for i, n := range nodes {
		nodes[i].Kids = slices.Clone(n.Kids)
	}
	return &Draft{Forest: api.Forest{Nodes: nodes}, first: f}
}

// Done is the forest behind all changes, and these. They are done to the forest that was handed in, so that none is told that can't be done: what would not be right is a matter of where nodes may be. In parts, since there may be more of them than forest.All takes at once.
func (d *Draft) Done() (api.Forest, []api.Change, api.Errno) {
	g, l := d.first, d.Changes
	for from := 0; from == 0 || from < len(l); from += api.MaxList {
		next, _, why := forest.All(g, l[from:min(from+api.MaxList, len(l))])
		if why != api.OK {
			return api.Forest{}, nil, api.ErrHierarchy
		}
		g = next
	}
	return g, l, api.OK
}

// Node is that of a handle.
func (d *Draft) Node(h int) *api.Node { return &d.Forest.Nodes[h-1] }

// Is tells whether a node is of a kind.
func (d *Draft) Is(h int, k api.NodeKind) bool { return d.Node(h).Kind == k }

// Place is where a child stands among a parent's kids; behind all of them, where it is 0.
func (d *Draft) Place(parent, child int) int {
	kids := d.Node(parent).Kids
	if child == 0 {
		return len(kids)
	}
	return slices.Index(kids, child)
}

// KidAt is a parent's kid at a place, 0 where there is none.
func (d *Draft) KidAt(parent, at int) int {
	kids := d.Node(parent).Kids
	if at < 0 || at >= len(kids) {
		return 0
	}
	return kids[at]
}

// AheadOf is the kid of a parent right ahead of a child, the last one, where that is 0.
func (d *Draft) AheadOf(parent, child int) int { return d.KidAt(parent, d.Place(parent, child)-1) }

// Ahead is the sibling right ahead of a kid.
func (d *Draft) Ahead(h int) int { return d.AheadOf(d.Node(h).Parent, h) }

// Behind is the sibling right behind a kid.
func (d *Draft) Behind(h int) int {
	parent := d.Node(h).Parent
	return d.KidAt(parent, d.Place(parent, h)+1)
}

// Connected tells whether a node is in a document, through shadow trees.
func (d *Draft) Connected(h int) bool {
	for over := d.over(h); over != 0; over = d.over(h) {
		h = over
	}
	return d.Is(h, api.KindDocument)
}

// over is a node's parent, or host: no node has both.
func (d *Draft) over(h int) int { return max(d.Node(h).Parent, d.Node(h).Host) }

// Below yields a node and all below it, through shadow trees, each ahead of its shadow root and that ahead of its kids.
func (d *Draft) Below(h int) iter.Seq[int] {
	return func(yield func(int) bool) { d.goBelow(h, yield) }
}

func (d *Draft) goBelow(h int, yield func(int) bool) bool {
	if !yield(h) {
		return false
	}
	n := d.Node(h)
	if n.Shadow != 0 && !d.goBelow(n.Shadow, yield) {
		return false
	}
	for _, kid := range n.Kids {
		if !d.goBelow(kid, yield) {
			return false
		}
	}
	return true
}
