package iterate

import (
	"iter"
	"slices"

	"canopy/api"
)

// All here is asked of right forests, and of handles of their nodes: order's calls would go over the whole of a forest for each node that is come to.

func there(f api.Forest, h int) bool { return h >= 1 && h <= len(f.Nodes) }

// from yields a node, where a step leads from it, and so on, till that is none.
func from(h int, step func(int) int) iter.Seq[int] {
	return func(yield func(int) bool) {
		for at := h; at != 0 && yield(at); at = step(at) {
		}
	}
}

// first is the first one of some nodes that fits, 0 for none.
func first(some iter.Seq[int], fits func(int) bool) int {
	for h := range some {
		if fits(h) {
			return h
		}
	}
	return 0
}

// upFrom yields a node, its parent, and so on.
func upFrom(f api.Forest, h int) iter.Seq[int] {
	return from(h, func(at int) int { return f.Nodes[at-1].Parent })
}

func contains(f api.Forest, a, b int) bool {
	return first(upFrom(f, b), func(up int) bool { return up == a }) != 0
}

// sibling is the one that stands by so many places behind a node, 0 for none.
func sibling(f api.Forest, h, by int) int {
	parent := f.Nodes[h-1].Parent
	if parent == 0 {
		return 0
	}
	kids := f.Nodes[parent-1].Kids
	at := slices.Index(kids, h) + by
	if at < 0 || at >= len(kids) {
		return 0
	}
	return kids[at]
}

// behind is the node behind one in tree order, of those that a root has within it.
func behind(f api.Forest, root, h int) int {
	if kids := f.Nodes[h-1].Kids; len(kids) > 0 {
		return kids[0]
	}
	for up := range upFrom(f, h) {
		if up == root {
			return 0
		}
		if next := sibling(f, up, 1); next != 0 {
			return next
		}
	}
	return 0
}

// ahead is the node ahead of one in tree order, of a root and those that it has within it (root 0: of the whole tree).
func ahead(f api.Forest, root, h int) int {
	if h == root {
		return 0
	}
	at := sibling(f, h, -1)
	if at == 0 {
		return f.Nodes[h-1].Parent
	}
	for kids := f.Nodes[at-1].Kids; len(kids) > 0; kids = f.Nodes[at-1].Kids {
		at = kids[len(kids)-1]
	}
	return at
}
