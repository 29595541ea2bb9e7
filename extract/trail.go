package extract

import (
	"slices"

	"canopy/api"
	"canopy/chardata"
	"canopy/forest"
	"canopy/mutate"
	"canopy/ranges"
	"canopy/valid"
)

// trail is a forest, the changes by which it came about, and a range that lives in it.
type trail struct {
	forest  api.Forest
	changes []api.Change
	live    api.Range
}

// on goes on by what a call answers.
func (t *trail) on(g api.Forest, l []api.Change, why api.Errno) api.Errno {
	if why != api.OK {
		return why
	}
	live, why := followed(t.forest, t.live, l)
	if why != api.OK {
		return why
	}
	t.forest, t.changes, t.live = g, append(t.changes, l...), live
	return api.OK
}

// followed is a range behind changes: in parts, since there may be more of them than ranges.Fold takes at once.
func followed(f api.Forest, r api.Range, l []api.Change) (api.Range, api.Errno) {
	for part := range slices.Chunk(l, api.MaxList) {
		folded, why := ranges.Fold(f, []api.Range{r}, part)
		if why != api.OK {
			return api.Range{}, why
		}
		r = folded[0]
		if f, _, why = forest.All(f, part); why != api.OK {
			return api.Range{}, why
		}
	}
	return r, api.OK
}

func (t *trail) kids(h int) []int { return t.forest.Nodes[h-1].Kids }

func (t *trail) parent(h int) int { return t.forest.Nodes[h-1].Parent }

// place is where a kid stands in a parent; behind all kids, where it is 0.
func (t *trail) place(parent, kid int) int {
	if kid == 0 {
		return len(t.kids(parent))
	}
	return slices.Index(t.kids(parent), kid)
}

// kidAt is the kid of a parent at a place, 0 for none.
func (t *trail) kidAt(parent, at int) int {
	if at >= len(t.kids(parent)) {
		return 0
	}
	return t.kids(parent)[at]
}

// spot is where a node comes that is inserted at the start of the range: the parent, and the next kid there.
func (t *trail) spot(node int) (parent, next int, why api.Errno) {
	start := t.live.Start
	text := isText(t.forest, start.Node)
	switch kind := kindOf(t.forest, start.Node); {
	case kind == api.KindInstruction || kind == api.KindComment, text && t.parent(start.Node) == 0, start.Node == node:
		return 0, 0, api.ErrHierarchy
	case text:
		parent, next = t.parent(start.Node), start.Node
	default:
		parent, next = start.Node, t.kidAt(start.Node, start.Offset)
	}
	return parent, next, valid.Insert(t.forest, node, parent, next)
}

// split parts the text at the range's start there, and answers its new part.
func (t *trail) split() (int, api.Errno) {
	g, made, l, why := chardata.Split(t.forest, t.live.Start.Node, uint32(t.live.Start.Offset))
	return made, t.on(g, l, why)
}

func (t *trail) insert(node int) api.Errno {
	start, point := t.live.Start, t.live.Start == t.live.End
	parent, next, why := t.spot(node)
	if why != api.OK {
		return why
	}
	if next == start.Node {
		if next, why = t.split(); why != api.OK {
			return why
		}
	}
	if next == node {
		next = t.kidAt(parent, t.place(parent, node)+1)
	}
	if from := t.parent(node); from != 0 {
		if why := t.on(mutate.Remove(t.forest, from, node)); why != api.OK {
			return why
		}
	}
	offset := t.place(parent, next) + t.count(node)
	if why := t.on(mutate.Insert(t.forest, node, parent, next)); why != api.OK {
		return why
	}
	if point {
		t.live.End = api.Bound{Node: parent, Offset: offset}
	}
	return api.OK
}

// count is how many nodes come where a node is put.
func (t *trail) count(node int) int {
	if kindOf(t.forest, node) == api.KindFragment {
		return len(t.kids(node))
	}
	return 1
}

// unfit is why a range can't be surrounded by a node.
func (c *cut) unfit(node int) api.Errno {
	for _, end := range []api.Bound{c.span.Start, c.span.End} {
		for at := end.Node; at != c.shared; at = c.was.Nodes[at-1].Parent {
			if !isText(c.was, at) {
				return api.ErrState
			}
		}
	}
	switch kindOf(c.was, node) {
	case api.KindDocument, api.KindDoctype, api.KindFragment, api.KindShadow:
		return api.ErrNodeType
	}
	return api.OK
}

// surrounded is the trail of surrounding a range by a node.
func surrounded(f api.Forest, r api.Range, node int) (*trail, api.Errno) {
	c, why := cutOf(f, r)
	if why != api.OK {
		return nil, why
	}
	if why := c.unfit(node); why != api.OK {
		return nil, why
	}
	g, fragment, l, why := c.done(c.taken())
	if why != api.OK {
		return nil, why
	}
	t := &trail{g, l, c.left()}
	if len(t.kids(node)) > 0 {
		if why := t.on(mutate.ReplaceAll(t.forest, node, 0)); why != api.OK {
			return nil, why
		}
	}
	if why := t.insert(node); why != api.OK {
		return nil, why
	}
	if why := t.on(mutate.Append(t.forest, fragment, node)); why != api.OK {
		return nil, why
	}
	ahead := api.Bound{Node: t.parent(node), Offset: t.place(t.parent(node), node)}
	t.live = api.Range{Start: ahead, End: api.Bound{Node: ahead.Node, Offset: ahead.Offset + 1}}
	return t, api.OK
}
