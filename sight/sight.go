// Package sight tells which nodes of a forest are seen from which, through shadow trees, for layers that ask for many of them: the trees are gone through once.
package sight

import "canopy/api"

// Sight is what is seen in a right forest: whoever makes one has seen to that.
type Sight struct {
	forest      api.Forest
	root        []int // by handles: the root of the node's tree
	first, last []int // by handles: the node's number in shadow-including tree order, and that of the last one below it
}

// Of goes through a right forest.
func Of(f api.Forest) Sight {
	size := len(f.Nodes) + 1
	s := Sight{f, make([]int, size), make([]int, size), make([]int, size)}
	next := 0
	for i, n := range f.Nodes {
		if n.Parent == 0 && n.Host == 0 {
			next = s.lay(i+1, i+1, next)
		}
	}
	return s
}

// lay numbers a node and all below it, from a number on, and answers the next one.
func (s Sight) lay(h, root, next int) int {
	n := s.forest.Nodes[h-1]
	s.root[h], s.first[h] = root, next
	next++
	if n.Shadow != 0 {
		next = s.lay(n.Shadow, n.Shadow, next)
	}
	for _, kid := range n.Kids {
		next = s.lay(kid, root, next)
	}
	s.last[h] = next - 1
	return next
}

// Root is the root of a node's tree.
func (s Sight) Root(h int) int { return s.root[h] }

// Shadow is the shadow root of the tree that a node is in, 0 if that has another root.
func (s Sight) Shadow(h int) int {
	if root := s.root[h]; s.forest.Nodes[root-1].Kind == api.KindShadow {
		return root
	}
	return 0
}

// Holds tells whether a node is another one, or has it below it, through shadow trees.
func (s Sight) Holds(a, b int) bool { return s.first[a] <= s.first[b] && s.first[b] <= s.last[a] }

// From is as which node a is seen from b: its host, as long as its tree is a shadow tree that b is not in. What is none, 0, is seen as none.
func (s Sight) From(b, a int) int {
	for a != 0 {
		root := s.Shadow(a)
		if root == 0 || s.Holds(root, b) {
			return a
		}
		a = s.forest.Nodes[root-1].Host
	}
	return 0
}
