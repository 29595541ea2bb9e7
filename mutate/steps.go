package mutate

import (
	"slices"

	"canopy/api"
	"canopy/chardata"
	"canopy/order"
	"canopy/valid"
)

func (w *work) insert(node, parent, child int) api.Errno {
	if why := valid.Insert(w.forest, node, parent, child); why != api.OK {
		return why
	}
	if child == node {
		child = w.behind(node)
	}
	w.putTold(node, parent, child)
	return api.OK
}

func (w *work) replace(node, parent, child int) api.Errno {
	if why := valid.Replace(w.forest, node, parent, child); why != api.OK {
		return why
	}
	prev, next, nodes := w.ahead(child), w.behind(child), w.nodesOf(node)
	if next == node {
		next = w.behind(node)
	}
	w.remove(child)
	w.put(node, parent, next)
	w.tell(parent, nodes, []int{child}, prev, next)
	return api.OK
}

func (w *work) replaceAll(parent, node int) api.Errno {
	if node == 0 {
		return w.empty(parent)
	}
	if why := valid.Insert(w.forest, node, parent, 0); why != api.OK {
		return why
	}
	added, removed := w.nodesOf(node), slices.Clone(w.node(parent).Kids)
	each(removed, w.remove)
	w.put(node, parent, 0)
	w.tellAll(parent, added, removed)
	return api.OK
}

// empty takes all kids away.
func (w *work) empty(parent int) api.Errno {
	if !mayHaveKids(w.node(parent).Kind) {
		return api.ErrHierarchy
	}
	removed := slices.Clone(w.node(parent).Kids)
	each(removed, w.remove)
	w.tellAll(parent, nil, removed)
	return api.OK
}

// tellAll tells which kids came in the place of all, if there is anything to tell.
func (w *work) tellAll(parent int, added, removed []int) {
	if len(added)+len(removed) > 0 {
		w.tell(parent, added, removed, 0, 0)
	}
}

func mayHaveKids(k api.NodeKind) bool {
	switch k {
	case api.KindDocument, api.KindFragment, api.KindShadow, api.KindElement:
		return true
	}
	return false
}

func (w *work) normalize(h int) api.Errno {
	all, why := order.All(w.forest, h)
	if why != api.OK {
		return why
	}
	for _, at := range all[1:] {
		n := w.node(at)
		switch {
		case n.Kind != api.KindText || n.Parent == 0: // no exclusive text, or taken away with a run
		case len(n.Data) == 0:
			w.leave(at)
		default:
			if why := w.merge(at, w.runBehind(at)); why != api.OK {
				return why
			}
		}
	}
	return api.OK
}

// runBehind are the exclusive texts that stand right behind one, one behind the other.
func (w *work) runBehind(text int) []int {
	var run []int
	for at := range going(text, w.behind) {
		if !w.is(at, api.KindText) {
			break
		}
		run = append(run, at)
	}
	return run
}

// merge has the data of a run in the text ahead of it. Whose they were is told ahead of taking the run away, so that whoever follows the changes knows where they went.
func (w *work) merge(text int, run []int) api.Errno {
	if len(run) == 0 {
		return api.OK
	}
	offset := len(w.node(text).Data)
	data, why := w.dataOf(run, api.MaxData-offset)
	if why != api.OK {
		return why
	}
	w.extend(text, data)
	for _, other := range run {
		w.note(api.Change{Kind: api.ChangeMerge, Node: text, Other: other, Offset: offset})
		offset += len(w.node(other).Data)
	}
	each(run, w.leave)
	return api.OK
}

// dataOf are the data of a run, put together, if there are at most so many. It ends where there are more: a run may be of thousands of texts, each as long as can be.
func (w *work) dataOf(run []int, most int) (api.Units, api.Errno) {
	var data api.Units
	for _, other := range run {
		data = append(data, w.node(other).Data...)
		if len(data) > most {
			return nil, api.ErrLong
		}
	}
	return data, api.OK
}

func (w *work) setContent(h int, data api.Units) api.Errno {
	n := *w.node(h)
	switch {
	case n.Kind == api.KindDocument || n.Kind == api.KindDoctype:
		return api.OK
	case !mayHaveKids(n.Kind):
		return w.take(chardata.Set(w.forest, h, data))
	case len(data) == 0:
		return w.empty(h)
	}
	text, why := w.grow(api.Node{Kind: api.KindText, Doc: n.Doc, Data: slices.Clone(data)})
	if why != api.OK {
		return why
	}
	return w.replaceAll(h, text)
}

// take goes on by what a call of another layer answers.
func (w *work) take(g api.Forest, l []api.Change, why api.Errno) api.Errno {
	if why == api.OK {
		w.forest, w.changes = g, append(w.changes, l...)
	}
	return why
}

func (w *work) before(h int, nodes []int) api.Errno {
	parent := w.node(h).Parent
	if parent == 0 {
		return api.OK
	}
	prev := firstBut(nodes, h, w.ahead)
	return w.withOne(h, nodes, func(node int) api.Errno {
		if prev == 0 {
			return w.insert(node, parent, w.firstKid(parent))
		}
		return w.insert(node, parent, w.behind(prev))
	})
}

func (w *work) after(h int, nodes []int) api.Errno {
	parent := w.node(h).Parent
	if parent == 0 {
		return api.OK
	}
	next := firstBut(nodes, h, w.behind)
	return w.withOne(h, nodes, func(node int) api.Errno { return w.insert(node, parent, next) })
}

func (w *work) replaceWith(h int, nodes []int) api.Errno {
	parent := w.node(h).Parent
	if parent == 0 {
		return api.OK
	}
	next := firstBut(nodes, h, w.behind)
	return w.withOne(h, nodes, func(node int) api.Errno {
		if w.node(h).Parent == parent {
			return w.replace(node, parent, h)
		}
		return w.insert(node, parent, next)
	})
}

// firstBut is the first sibling from a kid on that is none of some nodes, 0 if there is none.
func firstBut(nodes []int, h int, on func(int) int) int {
	for at := range going(h, on) {
		if !slices.Contains(nodes, at) {
			return at
		}
	}
	return 0
}

// withOne does a step with one node of some: the only one, else a new fragment that has them.
func (w *work) withOne(h int, nodes []int, step func(node int) api.Errno) api.Errno {
	if len(nodes) == 1 {
		return step(nodes[0])
	}
	all, why := w.gather(nodes, w.node(h).Doc)
	if why != api.OK {
		return why
	}
	return step(all)
}

// gather has some nodes in a new fragment. What may be in one hangs on the kind alone, so that one node of each is asked for: that goes over the whole forest each time.
func (w *work) gather(nodes []int, doc int) (int, api.Errno) {
	all, why := w.grow(api.Node{Kind: api.KindFragment, Doc: doc})
	if why != api.OK {
		return 0, why
	}
	asked := map[api.NodeKind]int{}
	for _, h := range nodes {
		kind := w.node(h).Kind
		if asked[kind]++; asked[kind] > 1 {
			continue
		}
		if why := valid.Insert(w.forest, h, all, 0); why != api.OK {
			return 0, why
		}
	}
	for _, h := range nodes {
		w.putTold(h, all, 0)
	}
	return all, api.OK
}
