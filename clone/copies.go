package clone

import (
	"slices"

	"canopy/api"
	"canopy/forest"
)

// missing is why a forest can't be asked: it is not right, or one of some handles is of no node.
func missing(f api.Forest, handles ...int) api.Errno {
	if why, _ := forest.Check(f); why != api.OK {
		return why
	}
	for _, h := range handles {
		if h < 1 || h > len(f.Nodes) {
			return api.ErrRange
		}
	}
	return api.OK
}

// next is the handle that the next node gets.
func next(f api.Forest) int { return len(f.Nodes) + 1 }

// copied is the answer of a copy of a node, which belongs to a document. forest.All refuses what is too much: each copy is of a node of the forest, so that where there is room for all of them they are no more than half of MaxNodes, and their changes fewer than MaxList.
func copied(f api.Forest, h, doc int, deep bool) (api.Forest, []api.Change, int, api.Errno) {
	l := Changes(f, h, doc, deep)
	g, _, why := forest.All(f, l)
	if why != api.OK {
		return api.Forest{}, nil, 0, why
	}
	return g, l, next(f), api.OK
}

// Changes are those that make a copy of a node of a right forest, which belongs to a document: each copy is made ahead of those that it is the parent of. Whether there is room for them is not asked. They are for layers that know that their forest is right, and make many copies: Clone goes over all of it each time.
func Changes(f api.Forest, h, doc int, deep bool) []api.Change {
	var l []api.Change
	own := next(f)
	var visit func(h, into, at int)
	visit = func(h, into, at int) {
		made := own
		own++
		l = append(l, making(f, h, made, doc))
		if into != 0 {
			l = append(l, api.Change{Kind: api.ChangeInsert, Node: made, Parent: into, Index: at})
		}
		if !deep {
			return
		}
		for i, kid := range f.Nodes[h-1].Kids {
			visit(kid, made, i)
		}
	}
	visit(h, 0, 0)
	return l
}

// making is the change that makes a copy of a node alone.
func making(f api.Forest, h, made, doc int) api.Change {
	n := f.Nodes[h-1]
	return api.Change{Kind: api.ChangeMake, Node: made, Made: api.Node{
		Kind: n.Kind, Name: n.Name, Public: n.Public, System: n.System, HTML: n.HTML, Doc: doc,
		Data: slices.Clone(n.Data), Attrs: slices.Clone(n.Attrs),
	}}
}
