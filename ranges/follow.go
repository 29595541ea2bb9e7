package ranges

import (
	"slices"

	"canopy/api"
)

// becomes tells what an end becomes by a change.
type becomes func(api.Bound) api.Bound

// ways has the kinds of changes that turn an end, and what ends become by them, as the trees ahead of a change have it.
func ways() map[api.ChangeKind]func(trees, api.Change) becomes {
	return map[api.ChangeKind]func(trees, api.Change) becomes{
		api.ChangeInsert: trees.byInsert,
		api.ChangeRemove: trees.byRemove,
		api.ChangeData:   trees.byData,
		api.ChangeSplit:  trees.bySplit,
		api.ChangeMerge:  trees.byMerge,
	}
}

// follow has ranges, and the trees, as they are behind changes that can be done.
func (t trees) follow(l []api.Range, changes ...api.Change) {
	by := ways()
	for _, c := range changes {
		if way, is := by[c.Kind]; is {
			turn(l, way(t, c))
		}
		t.Follow(c)
	}
}

func turn(l []api.Range, end becomes) {
	for i, r := range l {
		l[i] = api.Range{Start: end(r.Start), End: end(r.End)}
	}
}

func moved(b api.Bound, by int) api.Bound { return api.Bound{Node: b.Node, Offset: b.Offset + by} }

func same(b api.Bound) api.Bound { return b }

func (t trees) byInsert(c api.Change) becomes {
	return func(b api.Bound) api.Bound {
		if b.Node == c.Parent && b.Offset > c.Index {
			return moved(b, 1)
		}
		return b
	}
}

func (t trees) byRemove(c api.Change) becomes {
	gone := t.within(c.Node)
	return func(b api.Bound) api.Bound {
		switch {
		case gone[b.Node]:
			return api.Bound{Node: c.Parent, Offset: c.Index}
		case b.Node == c.Parent && b.Offset > c.Index:
			return moved(b, -1)
		}
		return b
	}
}

func (t trees) byData(c api.Change) becomes {
	return func(b api.Bound) api.Bound {
		switch {
		case b.Node != c.Node || b.Offset <= c.Offset:
			return b
		case b.Offset > c.Offset+c.Count:
			return moved(b, len(c.Data)-c.Count)
		}
		return api.Bound{Node: c.Node, Offset: c.Offset}
	}
}

func (t trees) bySplit(c api.Change) becomes {
	if !t.splits(c) {
		return same
	}
	between := moved(t.ahead(c.Node), 1)
	return func(b api.Bound) api.Bound {
		switch {
		case b.Node == c.Node && b.Offset > c.Offset:
			return api.Bound{Node: c.Other, Offset: b.Offset - c.Offset}
		case b == between:
			return moved(b, 1)
		}
		return b
	}
}

func (t trees) byMerge(c api.Change) becomes {
	if !t.merges(c) {
		return same
	}
	ahead := t.ahead(c.Other)
	return func(b api.Bound) api.Bound {
		switch {
		case b.Node == c.Other:
			return api.Bound{Node: c.Node, Offset: b.Offset + c.Offset}
		case b == ahead:
			return api.Bound{Node: c.Node, Offset: c.Offset}
		}
		return b
	}
}

// splits tells whether what stands in Node behind Offset stands in Other, right behind it, too.
func (t trees) splits(c api.Change) bool {
	kids, at := t.siblings(c.Node)
	return at >= 0 && at+1 < len(kids) && kids[at+1] == c.Other && t.haveData(c.Node, c.Other) &&
		t.reaches(c.Node, c.Offset) && slices.Equal(t.Node(c.Other).Data, t.Node(c.Node).Data[c.Offset:])
}

// merges tells whether what stands in Other stands in Node, a sibling ahead of it, too, from Offset on.
func (t trees) merges(c api.Change) bool {
	kids, at := t.siblings(c.Node)
	if at < 0 || !slices.Contains(kids[at+1:], c.Other) || !t.haveData(c.Node, c.Other) || !t.reaches(c.Node, c.Offset) {
		return false
	}
	behind, other := t.Node(c.Node).Data[c.Offset:], t.Node(c.Other).Data
	return len(other) <= len(behind) && slices.Equal(other, behind[:len(other)])
}
