// Package points numbers the points of a forest, for layers that hold many of them against each other: the trees are gone through once, however many points are asked for.
package points

import (
	"cmp"

	"canopy/api"
	"canopy/forest"
)

// Numbers are those of a right forest's points: they rise in the order of the points, and those of one tree stand together.
type Numbers struct {
	forest      api.Forest
	root        []int // by handles: the root of the node's tree
	first, last []int // by handles: the numbers of the first and the last point in the node
}

// Of numbers the points of a forest, if that is right.
func Of(f api.Forest) (Numbers, api.Errno) {
	if why, _ := forest.Check(f); why != api.OK {
		return Numbers{}, why
	}
	size := len(f.Nodes) + 1
	n := Numbers{f, make([]int, size), make([]int, size), make([]int, size)}
	next := 0
	for i, node := range f.Nodes {
		if node.Parent == 0 {
			next = n.lay(i+1, i+1, next) + 1
		}
	}
	return n, api.OK
}

// lay numbers the points of a node and of what lies within it, from a number on, and answers the last one.
func (n Numbers) lay(h, root, at int) int {
	node := n.forest.Nodes[h-1]
	n.root[h], n.first[h] = root, at
	for _, kid := range node.Kids {
		at = n.lay(kid, root, at+1) + 1
	}
	n.last[h] = at + len(node.Data)
	return n.last[h]
}

// Wrong is why one of some points is none: all nodes are asked for ahead of the offsets. Who has but a node to ask for hands in its point 0, which every node has.
func (n Numbers) Wrong(some ...api.Bound) api.Errno {
	for _, b := range some {
		if b.Node < 1 || b.Node > len(n.forest.Nodes) {
			return api.ErrRange
		}
	}
	for _, b := range some {
		if b.Offset < 0 || b.Offset > n.Length(b.Node) {
			return api.ErrIndexSize
		}
	}
	return api.OK
}

// Length needs not ask for the kind: no node has both kids and data, a doctype neither.
func (n Numbers) Length(h int) int {
	node := n.forest.Nodes[h-1]
	return len(node.Kids) + len(node.Data)
}

// Number is that of a point.
func (n Numbers) Number(b api.Bound) int {
	kids := n.forest.Nodes[b.Node-1].Kids
	if b.Offset == 0 || len(kids) == 0 {
		return n.first[b.Node] + b.Offset
	}
	return n.last[kids[b.Offset-1]] + 1
}

// Compare is the position of a point against another one of its tree.
func (n Numbers) Compare(a, b api.Bound) int { return cmp.Compare(n.Number(a), n.Number(b)) }

// OneTree tells whether two nodes are of one tree.
func (n Numbers) OneTree(a, b int) bool { return n.root[a] == n.root[b] }

// Holds tells whether a node is another one, or has it within it.
func (n Numbers) Holds(a, b int) bool { return n.first[a] <= n.first[b] && n.last[b] <= n.last[a] }

// Valid tells whether a range, whose ends are points, is valid.
func (n Numbers) Valid(r api.Range) bool {
	return n.OneTree(r.Start.Node, r.End.Node) && n.Compare(r.Start, r.End) <= 0
}

// Contained tells whether a node is contained in a valid range. It needs not ask for the tree: the numbers of no other one are between those of the ends.
func (n Numbers) Contained(r api.Range, h int) bool {
	return n.first[h] > n.Number(r.Start) && n.last[h] < n.Number(r.End)
}
