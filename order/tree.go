package order

import (
	"cmp"
	"iter"
	"slices"

	"canopy/api"
)

// All here is asked of right forests, and of handles of their nodes.

// What Compare's answer is put together from.
const (
	disconnected = 1
	preceding    = 2
	following    = 4
	containing   = 8
	contained    = 16
	byHandles    = 32
)

// stand is how two nodes stand to one another in tree order.
type stand struct {
	sign    int
	oneTree bool
}

func node(f api.Forest, h int) *api.Node { return &f.Nodes[h-1] }

func parentOf(f api.Forest, h int) int { return node(f, h).Parent }

// overOf is a parent through shadow trees: that of a shadow root is its host.
func overOf(f api.Forest, h int) int {
	if host := node(f, h).Host; host != 0 {
		return host
	}
	return parentOf(f, h)
}

func kidsOf(f api.Forest, h int) []int { return node(f, h).Kids }

func shadowAndKidsOf(f api.Forest, h int) []int {
	if shadow := node(f, h).Shadow; shadow != 0 {
		return slices.Concat([]int{shadow}, kidsOf(f, h))
	}
	return kidsOf(f, h)
}

// above yields a node's ancestors.
func above(f api.Forest, h int) iter.Seq[int] { return upBy(f, parentOf(f, h), parentOf) }

// upBy yields a node, if there is one, what is over it, and so on.
func upBy(f api.Forest, h int, over func(api.Forest, int) int) iter.Seq[int] {
	return func(yield func(int) bool) {
		for at := h; at != 0 && yield(at); at = over(f, at) {
		}
	}
}

func rootOf(f api.Forest, h int) int { return lastOf(upBy(f, h, parentOf)) }

func topOf(f api.Forest, h int) int { return lastOf(upBy(f, h, overOf)) }

func lastOf(all iter.Seq[int]) int {
	last := 0
	for last = range all {
	}
	return last
}

func contains(f api.Forest, a, b int) bool { return has(upBy(f, b, parentOf), a) }

func holds(f api.Forest, a, b int) bool { return has(upBy(f, b, overOf), a) }

func has(all iter.Seq[int], h int) bool {
	for one := range all {
		if one == h {
			return true
		}
	}
	return false
}

func indexOf(f api.Forest, h int) int {
	parent := parentOf(f, h)
	if parent == 0 {
		return 0
	}
	return slices.Index(kidsOf(f, parent), h)
}

// lengthOf needs not ask for the kind: no node has both kids and data, a doctype neither.
func lengthOf(f api.Forest, h int) int { return len(node(f, h).Kids) + len(node(f, h).Data) }

// pathOf is the way from a node's root down to it.
func pathOf(f api.Forest, h int) []int {
	path := slices.Collect(upBy(f, h, parentOf))
	slices.Reverse(path)
	return path
}

// fork is how long the paths to two nodes run together.
func fork(p, q []int) int {
	n := 0
	for n < min(len(p), len(q)) && p[n] == q[n] {
		n++
	}
	return n
}

func commonOf(f api.Forest, a, b int) int {
	p := pathOf(f, a)
	n := fork(p, pathOf(f, b))
	if n == 0 {
		return 0
	}
	return p[n-1]
}

// standOf finds where the paths to two nodes part: the one that ends there is an ancestor, and else siblings tell.
func standOf(f api.Forest, a, b int) stand {
	p, q := pathOf(f, a), pathOf(f, b)
	n := fork(p, q)
	switch {
	case n == 0:
		return stand{}
	case n == len(p) || n == len(q):
		return stand{cmp.Compare(len(p), len(q)), true}
	}
	return stand{cmp.Compare(indexOf(f, p[n]), indexOf(f, q[n])), true}
}

func positionOf(f api.Forest, node, other int) int {
	s := standOf(f, node, other)
	switch {
	case node == other:
		return 0
	case !s.oneTree && other < node:
		return disconnected + byHandles + preceding
	case !s.oneTree:
		return disconnected + byHandles + following
	case contains(f, other, node):
		return containing + preceding
	case contains(f, node, other):
		return contained + following
	case s.sign > 0:
		return preceding
	}
	return following
}

// listOf are a node and all below it, each ahead of those that hang on it.
func listOf(f api.Forest, h int, hanging func(api.Forest, int) []int) []int {
	var list []int
	var visit func(int)
	visit = func(at int) {
		list = append(list, at)
		for _, next := range hanging(f, at) {
			visit(next)
		}
	}
	visit(h)
	return list
}

// behind is the first kid, else the next sibling of the nearest one, from h upwards, that has one.
func behind(f api.Forest, h int) int {
	if kids := kidsOf(f, h); len(kids) > 0 {
		return kids[0]
	}
	for at := range upBy(f, h, parentOf) {
		if next := siblingBehind(f, at); next != 0 {
			return next
		}
	}
	return 0
}

func siblingBehind(f api.Forest, h int) int {
	parent := parentOf(f, h)
	if parent == 0 {
		return 0
	}
	kids, i := kidsOf(f, parent), indexOf(f, h)+1
	if i == len(kids) {
		return 0
	}
	return kids[i]
}

// ahead is the parent of a first kid, else the last one within the sibling ahead.
func ahead(f api.Forest, h int) int {
	i := indexOf(f, h)
	if i == 0 {
		return parentOf(f, h)
	}
	at := kidsOf(f, parentOf(f, h))[i-1]
	for kids := kidsOf(f, at); len(kids) > 0; kids = kidsOf(f, at) {
		at = kids[len(kids)-1]
	}
	return at
}
