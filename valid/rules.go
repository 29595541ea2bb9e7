package valid

import (
	"slices"

	"canopy/api"
	"canopy/forest"
	"canopy/order"
)

// missing is why a forest can't be asked: it is not right, or one of some handles is of no node.
func missing(f api.Forest, handles ...int) api.Errno {
	if why, _ := forest.Check(f); why != api.OK {
		return why
	}
	for _, h := range handles {
		if h < 1 || h > len(f.Nodes) {
			return api.ErrRange
		}
	}
	return api.OK
}

func kindOf(f api.Forest, h int) api.NodeKind { return f.Nodes[h-1].Kind }

func isText(k api.NodeKind) bool { return k == api.KindText || k == api.KindCData }

func mayHaveKids(k api.NodeKind) bool {
	switch k {
	case api.KindDocument, api.KindFragment, api.KindShadow, api.KindElement:
		return true
	}
	return false
}

// place is where a node shall be: at a parent's kid, or behind all of them, where that is 0.
type place struct {
	forest              api.Forest
	node, parent, child int
}

// judged is why a node may not be at its place, with what stands ahead of it and behind it there as cut has it.
func judged(p place, cut func(kids []int, child int) ([]int, []int), handles ...int) api.Errno {
	if why := missing(p.forest, handles...); why != api.OK {
		return why
	}
	if !mayHaveKids(kindOf(p.forest, p.parent)) {
		return api.ErrHierarchy
	}
	ring, why := order.Holds(p.forest, p.node, p.parent)
	switch {
	case why != api.OK:
		return why
	case ring:
		return api.ErrHierarchy
	case p.child != 0 && p.forest.Nodes[p.child-1].Parent != p.parent:
		return api.ErrNotFound
	case !p.fits():
		return api.ErrHierarchy
	case kindOf(p.forest, p.parent) != api.KindDocument:
		return api.OK
	}
	ahead, behind := cut(p.forest.Nodes[p.parent-1].Kids, p.child)
	if !(gap{p.forest, ahead, behind}).takes(p.node) {
		return api.ErrHierarchy
	}
	return api.OK
}

// fits tells whether a node may be a kid of its parent by what they are.
func (p place) fits() bool {
	document := kindOf(p.forest, p.parent) == api.KindDocument
	switch k := kindOf(p.forest, p.node); k {
	case api.KindDocument, api.KindShadow:
		return false
	case api.KindDoctype:
		return document
	default:
		return !document || !isText(k)
	}
}

// aheadOf parts kids so that the child is behind; where it is 0, all are ahead.
func aheadOf(kids []int, child int) ([]int, []int) {
	if child == 0 {
		return kids, nil
	}
	at := slices.Index(kids, child)
	return kids[:at], kids[at:]
}

// insteadOf parts kids so that the child is on neither side: it will be gone.
func insteadOf(kids []int, child int) ([]int, []int) {
	at := slices.Index(kids, child)
	return kids[:at], kids[at+1:]
}

// gap is a place among the kids of a document: those that will stand ahead of what comes there, and behind it.
type gap struct {
	forest        api.Forest
	ahead, behind []int
}

// takes tells whether a node may come into the gap. A kind without a rule may.
func (g gap) takes(node int) bool {
	rule, is := g.rules()[kindOf(g.forest, node)]
	return !is || rule(node)
}

// rules tell, by a node's kind, whether the gap takes a node of it.
func (g gap) rules() map[api.NodeKind]func(node int) bool {
	return map[api.NodeKind]func(node int) bool{
		api.KindFragment: g.takesFragment,
		api.KindElement:  g.takesElement,
		api.KindDoctype:  g.takesDoctype,
	}
}

func (g gap) takesElement(int) bool {
	return lack(g.isElement, g.ahead, g.behind) && lack(g.isDoctype, g.behind)
}

func (g gap) takesDoctype(int) bool {
	return lack(g.isDoctype, g.ahead, g.behind) && lack(g.isElement, g.ahead)
}

// takesFragment asks for the kids, which come in the fragment's stead.
func (g gap) takesFragment(node int) bool {
	kids := g.forest.Nodes[node-1].Kids
	first := slices.IndexFunc(kids, g.isElement)
	if first < 0 {
		return lack(g.isText, kids)
	}
	return lack(g.isText, kids) && lack(g.isElement, kids[first+1:]) && g.takesElement(kids[first])
}

// lack tells whether no node of some lists is such.
func lack(such func(int) bool, lists ...[]int) bool {
	for _, l := range lists {
		if slices.ContainsFunc(l, such) {
			return false
		}
	}
	return true
}

func (g gap) isElement(h int) bool { return kindOf(g.forest, h) == api.KindElement }

func (g gap) isDoctype(h int) bool { return kindOf(g.forest, h) == api.KindDoctype }

func (g gap) isText(h int) bool { return isText(kindOf(g.forest, h)) }
