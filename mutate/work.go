package mutate

import (
	"iter"

	"canopy/api"
	"canopy/draft"
	"canopy/forest"
)

// work is what steps are done to.
type work struct{ *draft.Draft }

// worked is the answer of steps that are done to a draft, if the forest is right and the handles are of nodes.
func worked(f api.Forest, steps func(work) api.Errno, handles ...int) (api.Forest, []api.Change, api.Errno) {
	if why := missing(f, handles...); why != api.OK {
		return api.Forest{}, nil, why
	}
	w := work{draft.Of(f)}
	if why := steps(w); why != api.OK {
		return api.Forest{}, nil, why
	}
	return w.Done()
}

// workedBySome is worked of a node and a list of nodes: how long that is comes ahead of what is in it.
func workedBySome(f api.Forest, h int, nodes []int, steps func(work) api.Errno) (api.Forest, []api.Change, api.Errno) {
	if why := missing(f, h); why != api.OK {
		return api.Forest{}, nil, why
	}
	if len(nodes) > api.MaxList {
		return api.Forest{}, nil, api.ErrMany
	}
	return worked(f, steps, nodes...)
}

// missing is why a forest can't be worked on: it is not right, or one of some handles is of no node.
func missing(f api.Forest, handles ...int) api.Errno {
	if why, _ := forest.Check(f); why != api.OK {
		return why
	}
	for _, h := range handles {
		if h < 1 || h > len(f.Nodes) {
			return api.ErrRange
		}
	}
	return api.OK
}

func (w work) firstKid(h int) int { return w.KidAt(h, 0) }

// going yields the siblings of a kid, each told by the one before it.
func going(h int, on func(int) int) iter.Seq[int] {
	return func(yield func(int) bool) {
		for at := on(h); at != 0 && yield(at); at = on(at) {
		}
	}
}

// each does a step to some nodes, one behind the other.
func each(nodes []int, step func(int)) {
	for _, h := range nodes {
		step(h)
	}
}
