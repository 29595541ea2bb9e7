package iterate

import (
	"slices"

	"canopy/api"
	"canopy/forest"
	"canopy/walk"
)

// wrong is why an iterator is not right in a right forest. Its filter is the same in every forest, so a small one is asked.
func wrong(f api.Forest, it api.Iterator) api.Errno {
	if !there(f, it.Root) {
		return api.ErrRange
	}
	if _, why := walk.Accept(forest.New(false), it.Filter, 1); why != api.OK {
		return why
	}
	if !there(f, it.Ref) || !contains(f, it.Root, it.Ref) {
		return api.ErrRange
	}
	return api.OK
}

func copyOf(it api.Iterator) api.Iterator {
	it.Filter.Rules = slices.Clone(it.Filter.Rules)
	return it
}

// judge tells which nodes of a right forest a filter accepts.
type judge struct {
	f      api.Forest
	filter api.Filter
}

func (j judge) accepts(h int) bool {
	f, at := alone(j.f.Nodes[h-1])
	says, _ := walk.Accept(f, j.filter, at)
	return says == api.VerdictAccept
}

// alone is a forest that has a node of this kind and name, and its handle. walk is asked of it, since it goes over all of a forest each time, and node by node is asked here.
func alone(n api.Node) (api.Forest, int) {
	f := forest.New(false)
	switch n.Kind {
	case api.KindDocument:
	case api.KindShadow:
		f.Nodes = append(f.Nodes,
			api.Node{Kind: api.KindElement, Name: api.Name{Local: "host"}, Doc: 1, Shadow: 3},
			api.Node{Kind: api.KindShadow, Mode: api.ShadowOpen, Doc: 1, Host: 2})
	default:
		f.Nodes = append(f.Nodes, api.Node{Kind: n.Kind, Name: n.Name, Doc: 1})
	}
	return f, len(f.Nodes)
}

// moved is an iterator behind its next answer, and that, 0 for none. It comes to stand ahead of what it tells, if before, else behind it: where it stands so already, its Ref has been passed.
func moved(f api.Forest, it api.Iterator, before bool, step func(int) int) (api.Iterator, int) {
	it = copyOf(it)
	start := it.Ref
	if it.Before == before {
		start = step(start)
	}
	h := first(from(start, step), judge{f, it.Filter}.accepts)
	if h != 0 {
		it.Ref, it.Before = h, before
	}
	return it, h
}
