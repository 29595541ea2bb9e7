package iterate

import (
	"slices"

	"canopy/api"
	"canopy/forest"
)

// removal is what becomes of a tree when a node is removed: all that iterators, however many there are, must know of it.
type removal struct {
	within []bool // by handles: the node, and all within it
	ended  []bool // by handles: those above the node within which nothing stands behind it
	next   int    // the first node behind all within it
	prev   int    // the node ahead of it
}

func removalOf(f api.Forest, node int) removal {
	size := len(f.Nodes) + 1
	r := removal{within: make([]bool, size), ended: make([]bool, size), prev: ahead(f, 0, node)}
	r.take(f, node)
	for up := range upFrom(f, node) {
		r.ended[up] = true
		if r.next = sibling(f, up, 1); r.next != 0 {
			break
		}
	}
	return r
}

func (r removal) take(f api.Forest, h int) {
	r.within[h] = true
	for _, kid := range f.Nodes[h-1].Kids {
		r.take(f, kid)
	}
}

// follow is an iterator behind the removal.
func (r removal) follow(it api.Iterator) api.Iterator {
	switch {
	case !r.within[it.Ref] || r.within[it.Root]:
	case it.Before && !r.ended[it.Root]:
		it.Ref = r.next
	default:
		it.Ref, it.Before = r.prev, false
	}
	return it
}

func (r removal) followAll(l []api.Iterator) {
	for i, it := range l {
		l[i] = r.follow(it)
	}
}

// refused is why iterators can't follow changes.
func refused(f api.Forest, l []api.Iterator, changes []api.Change) api.Errno {
	if why, _ := forest.Check(f); why != api.OK {
		return why
	}
	if len(l) > api.MaxList {
		return api.ErrMany
	}
	for _, it := range l {
		if why := wrong(f, it); why != api.OK {
			return why
		}
	}
	_, _, why := forest.All(f, changes)
	return why
}

// linksOf is a forest that has nothing but its nodes' parents and kids, for changes to be followed there one by one: forest.Apply would go over, and copy, all of it for each of them.
func linksOf(f api.Forest) api.Forest {
	var links api.Forest
	for _, n := range f.Nodes {
		links.Nodes = append(links.Nodes, api.Node{Parent: n.Parent, Kids: slices.Clone(n.Kids)})
	}
	return links
}

// linked are links behind a change that can be done.
func linked(links api.Forest, c api.Change) api.Forest {
	switch c.Kind {
	case api.ChangeMake, api.ChangeShadow:
		links.Nodes = append(links.Nodes, api.Node{})
	case api.ChangeInsert:
		parent := &links.Nodes[c.Parent-1]
		parent.Kids = slices.Insert(parent.Kids, c.Index, c.Node)
		links.Nodes[c.Node-1].Parent = c.Parent
	case api.ChangeRemove:
		parent := &links.Nodes[c.Parent-1]
		parent.Kids = slices.Delete(parent.Kids, c.Index, c.Index+1)
		links.Nodes[c.Node-1].Parent = 0
	}
	return links
}
