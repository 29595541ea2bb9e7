package iterate

import (
	"canopy/api"
	"canopy/forest"
)

// removal is what becomes of a tree when a node is removed: all that iterators, however many there are, must know of it.
type removal struct {
	within []bool // by handles: the node, and all within it
	ended  []bool // by handles: those above the node within which nothing stands behind it
	next   int    // the first node behind all within it
	prev   int    // the node ahead of it
}

func removalOf(f api.Forest, node int) removal {
	size := len(f.Nodes) + 1
	r := removal{within: make([]bool, size), ended: make([]bool, size), prev: ahead(f, 0, node)}
	r.take(f, node)
	for up := range upFrom(f, node) {
		r.ended[up] = true
		if r.next = sibling(f, up, 1); r.next != 0 {
			break
		}
	}
	return r
}

func (r removal) take(f api.Forest, h int) {
	r.within[h] = true
	for _, kid := range f.Nodes[h-1].Kids {
		r.take(f, kid)
	}
}

// follow is an iterator behind the removal.
func (r removal) follow(it api.Iterator) api.Iterator {
	switch {
	case !r.within[it.Ref] || r.within[it.Root]:
	case it.Before && !r.ended[it.Root]:
		it.Ref = r.next
	default:
		it.Ref, it.Before = r.prev, false
	}
	return it
}

func (r removal) followAll(l []api.Iterator) {
	for i, it := range l {
		l[i] = r.follow(it)
	}
}

// refused is why iterators can't follow changes.
func refused(f api.Forest, l []api.Iterator, changes []api.Change) api.Errno {
	if why, _ := forest.Check(f); why != api.OK {
		return why
	}
	if len(l) > api.MaxList {
		return api.ErrMany
	}
	for _, it := range l {
		if why := wrong(f, it); why != api.OK {
			return why
		}
	}
	_, _, why := forest.All(f, changes)
	return why
}
