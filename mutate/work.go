package mutate

import (
	"iter"
	"slices"

	"canopy/api"
	"canopy/forest"
)

// work is a working copy of a right forest, and the changes by which it became what it is. Lists of kids are its own; data and attributes are still those of the forest that was handed in, so that they are never written into.
type work struct {
	forest  api.Forest
	changes []api.Change
}

func begin(f api.Forest) *work {
	nodes := slices.Clone(f.Nodes)
	for i, n := range nodes {
		nodes[i].Kids = slices.Clone(n.Kids)
	}
	return &work{forest: api.Forest{Nodes: nodes}}
}

// worked is the answer of steps that are done to a working copy, if the forest is right and the handles are of nodes.
func worked(f api.Forest, steps func(*work) api.Errno, handles ...int) (api.Forest, []api.Change, api.Errno) {
	if why := missing(f, handles...); why != api.OK {
		return api.Forest{}, nil, why
	}
	w := begin(f)
	if why := steps(w); why != api.OK {
		return api.Forest{}, nil, why
	}
	return done(f, w.changes)
}

// workedBySome is worked of a node and a list of nodes: how long that is comes ahead of what is in it.
func workedBySome(f api.Forest, h int, nodes []int, steps func(*work) api.Errno) (api.Forest, []api.Change, api.Errno) {
	if why := missing(f, h); why != api.OK {
		return api.Forest{}, nil, why
	}
	if len(nodes) > api.MaxList {
		return api.Forest{}, nil, api.ErrMany
	}
	return worked(f, steps, nodes...)
}

// missing is why a forest can't be worked on: it is not right, or one of some handles is of no node.
func missing(f api.Forest, handles ...int) api.Errno {
	if why, _ := forest.Check(f); why != api.OK {
		return why
	}
	for _, h := range handles {
		if h < 1 || h > len(f.Nodes) {
			return api.ErrRange
		}
	}
	return api.OK
}

// done is the forest behind some changes, and these. They are done to the forest that was handed in, so that none is told that can't be done: what would not be right is a matter of where nodes may be. In parts, since there may be more of them than forest.All takes at once.
func done(f api.Forest, l []api.Change) (api.Forest, []api.Change, api.Errno) {
	g := f
	for from := 0; from == 0 || from < len(l); from += api.MaxList {
		next, _, why := forest.All(g, l[from:min(from+api.MaxList, len(l))])
		if why != api.OK {
			return api.Forest{}, nil, api.ErrHierarchy
		}
		g = next
	}
	return g, l, api.OK
}

func (w *work) node(h int) *api.Node { return &w.forest.Nodes[h-1] }

func (w *work) is(h int, k api.NodeKind) bool { return w.node(h).Kind == k }

// place is where a child stands among a parent's kids; behind all of them, where it is 0.
func (w *work) place(parent, child int) int {
	kids := w.node(parent).Kids
	if child == 0 {
		return len(kids)
	}
	return slices.Index(kids, child)
}

// kidAt is a parent's kid at a place, 0 where there is none.
func (w *work) kidAt(parent, at int) int {
	kids := w.node(parent).Kids
	if at < 0 || at >= len(kids) {
		return 0
	}
	return kids[at]
}

func (w *work) firstKid(h int) int { return w.kidAt(h, 0) }

// aheadOf is the kid of a parent right ahead of a child, the last one, where that is 0.
func (w *work) aheadOf(parent, child int) int { return w.kidAt(parent, w.place(parent, child)-1) }

// ahead is the sibling right ahead of a kid.
func (w *work) ahead(h int) int { return w.aheadOf(w.node(h).Parent, h) }

// behind is the sibling right behind a kid.
func (w *work) behind(h int) int {
	parent := w.node(h).Parent
	return w.kidAt(parent, w.place(parent, h)+1)
}

// going yields the siblings of a kid, each told by the one before it.
func going(h int, on func(int) int) iter.Seq[int] {
	return func(yield func(int) bool) {
		for at := on(h); at != 0 && yield(at); at = on(at) {
		}
	}
}

// below yields a node and all below it, through shadow trees.
func (w *work) below(h int) iter.Seq[int] {
	return func(yield func(int) bool) { w.goBelow(h, yield) }
}

func (w *work) goBelow(h int, yield func(int) bool) bool {
	if !yield(h) {
		return false
	}
	n := w.node(h)
	if n.Shadow != 0 && !w.goBelow(n.Shadow, yield) {
		return false
	}
	for _, kid := range n.Kids {
		if !w.goBelow(kid, yield) {
			return false
		}
	}
	return true
}

// each does a step to some nodes, one behind the other.
func each(nodes []int, step func(int)) {
	for _, h := range nodes {
		step(h)
	}
}
