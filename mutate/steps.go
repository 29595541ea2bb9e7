package mutate

import (
	"slices"

	"canopy/api"
	"canopy/chardata"
	"canopy/order"
	"canopy/valid"
)

func (w work) insert(node, parent, child int) api.Errno {
	if why := valid.Insert(w.Forest, node, parent, child); why != api.OK {
		return why
	}
	if child == node {
		child = w.Behind(node)
	}
	w.PutTold(node, parent, child)
	return api.OK
}

func (w work) replace(node, parent, child int) api.Errno {
	if why := valid.Replace(w.Forest, node, parent, child); why != api.OK {
		return why
	}
	prev, next, nodes := w.Ahead(child), w.Behind(child), w.Nodes(node)
	if next == node {
		next = w.Behind(node)
	}
	w.Remove(child)
	w.Put(node, parent, next)
	w.Tell(parent, nodes, []int{child}, prev, next)
	return api.OK
}

func (w work) replaceAll(parent, node int) api.Errno {
	if node == 0 {
		return w.empty(parent)
	}
	if why := valid.Insert(w.Forest, node, parent, 0); why != api.OK {
		return why
	}
	added, removed := w.Nodes(node), slices.Clone(w.Node(parent).Kids)
	each(removed, w.Remove)
	w.Put(node, parent, 0)
	w.tellAll(parent, added, removed)
	return api.OK
}

// empty takes all kids away.
func (w work) empty(parent int) api.Errno {
	if !mayHaveKids(w.Node(parent).Kind) {
		return api.ErrHierarchy
	}
	removed := slices.Clone(w.Node(parent).Kids)
	each(removed, w.Remove)
	w.tellAll(parent, nil, removed)
	return api.OK
}

// tellAll tells which kids came in the place of all, if there is anything to tell.
func (w work) tellAll(parent int, added, removed []int) {
	if len(added)+len(removed) > 0 {
		w.Tell(parent, added, removed, 0, 0)
	}
}

func mayHaveKids(k api.NodeKind) bool {
	switch k {
	case api.KindDocument, api.KindFragment, api.KindShadow, api.KindElement:
		return true
	}
	return false
}

func (w work) normalize(h int) api.Errno {
	all, why := order.All(w.Forest, h)
	if why != api.OK {
		return why
	}
	for _, at := range all[1:] {
		n := w.Node(at)
		switch {
		case n.Kind != api.KindText || n.Parent == 0: // no exclusive text, or taken away with a run
		case len(n.Data) == 0:
			w.Leave(at)
		default:
			if why := w.merge(at, w.runBehind(at)); why != api.OK {
				return why
			}
		}
	}
	return api.OK
}

// runBehind are the exclusive texts that stand right behind one, one behind the other.
func (w work) runBehind(text int) []int {
	var run []int
	for at := range going(text, w.Behind) {
		if !w.Is(at, api.KindText) {
			break
		}
		run = append(run, at)
	}
	return run
}

// merge has the data of a run in the text ahead of it. Whose they were is told ahead of taking the run away, so that whoever follows the changes knows where they went.
func (w work) merge(text int, run []int) api.Errno {
	if len(run) == 0 {
		return api.OK
	}
	offset := len(w.Node(text).Data)
	data, why := w.dataOf(run, api.MaxData-offset)
	if why != api.OK {
		return why
	}
	w.Replace(text, offset, 0, data)
	for _, other := range run {
		w.Do(api.Change{Kind: api.ChangeMerge, Node: text, Other: other, Offset: offset})
		offset += len(w.Node(other).Data)
	}
	each(run, w.Leave)
	return api.OK
}

// dataOf are the data of a run, put together, if there are at most so many. It ends where there are more: a run may be of thousands of texts, each as long as can be.
func (w work) dataOf(run []int, most int) (api.Units, api.Errno) {
	var data api.Units
	for _, other := range run {
		data = append(data, w.Node(other).Data...)
		if len(data) > most {
			return nil, api.ErrLong
		}
	}
	return data, api.OK
}

func (w work) setContent(h int, data api.Units) api.Errno {
	n := *w.Node(h)
	switch {
	case n.Kind == api.KindDocument || n.Kind == api.KindDoctype:
		return api.OK
	case !mayHaveKids(n.Kind):
		return w.Take(chardata.Set(w.Forest, h, data))
	case len(data) == 0:
		return w.empty(h)
	}
	text, why := w.Make(api.Node{Kind: api.KindText, Doc: n.Doc, Data: slices.Clone(data)})
	if why != api.OK {
		return why
	}
	return w.replaceAll(h, text)
}

func (w work) before(h int, nodes []int) api.Errno {
	parent := w.Node(h).Parent
	if parent == 0 {
		return api.OK
	}
	prev := firstBut(nodes, h, w.Ahead)
	return w.withOne(h, nodes, func(node int) api.Errno {
		if prev == 0 {
			return w.insert(node, parent, w.firstKid(parent))
		}
		return w.insert(node, parent, w.Behind(prev))
	})
}

func (w work) after(h int, nodes []int) api.Errno {
	parent := w.Node(h).Parent
	if parent == 0 {
		return api.OK
	}
	next := firstBut(nodes, h, w.Behind)
	return w.withOne(h, nodes, func(node int) api.Errno { return w.insert(node, parent, next) })
}

func (w work) replaceWith(h int, nodes []int) api.Errno {
	parent := w.Node(h).Parent
	if parent == 0 {
		return api.OK
	}
	next := firstBut(nodes, h, w.Behind)
	return w.withOne(h, nodes, func(node int) api.Errno {
		if w.Node(h).Parent == parent {
			return w.replace(node, parent, h)
		}
		return w.insert(node, parent, next)
	})
}

// firstBut is the first sibling from a kid on that is none of some nodes, 0 if there is none.
func firstBut(nodes []int, h int, on func(int) int) int {
	for at := range going(h, on) {
		if !slices.Contains(nodes, at) {
			return at
		}
	}
	return 0
}

// withOne does a step with one node of some: the only one, else a new fragment that has them.
func (w work) withOne(h int, nodes []int, step func(node int) api.Errno) api.Errno {
	if len(nodes) == 1 {
		return step(nodes[0])
	}
	all, why := w.gather(nodes, w.Node(h).Doc)
	if why != api.OK {
		return why
	}
	return step(all)
}

// gather has some nodes in a new fragment. What may be in one hangs on the kind alone, so that one node of each is asked for: that goes over the whole forest each time.
func (w work) gather(nodes []int, doc int) (int, api.Errno) {
	all, why := w.Make(api.Node{Kind: api.KindFragment, Doc: doc})
	if why != api.OK {
		return 0, why
	}
	asked := map[api.NodeKind]int{}
	for _, h := range nodes {
		kind := w.Node(h).Kind
		if asked[kind]++; asked[kind] > 1 {
			continue
		}
		if why := valid.Insert(w.Forest, h, all, 0); why != api.OK {
			return 0, why
		}
	}
	for _, h := range nodes {
		w.PutTold(h, all, 0)
	}
	return all, api.OK
}
