package forest

import (
	"slices"

	"canopy/api"
)

// The functions here are asked of changes that can be done, and of the forest ahead of them.

func backNever(api.Forest, api.Change) (api.Change, bool) { return api.Change{}, false }

func backInsert(_ api.Forest, c api.Change) (api.Change, bool) {
	return api.Change{Kind: api.ChangeRemove, Node: c.Node, Parent: c.Parent, Index: c.Index}, true
}

func backRemove(_ api.Forest, c api.Change) (api.Change, bool) {
	return api.Change{Kind: api.ChangeInsert, Node: c.Node, Parent: c.Parent, Index: c.Index}, true
}

// backAdopt needs one document alone: what hangs together has the same one.
func backAdopt(f api.Forest, c api.Change) (api.Change, bool) {
	return api.Change{Kind: api.ChangeAdopt, Node: c.Node, Doc: node(f, c.Node).Doc}, true
}

func backData(f api.Forest, c api.Change) (api.Change, bool) {
	old := node(f, c.Node).Data[c.Offset : c.Offset+c.Count]
	return api.Change{
		Kind: api.ChangeData, Node: c.Node, Offset: c.Offset, Count: len(c.Data), Data: slices.Clone(old),
	}, true
}

// backAttr takes the name from the attribute, if there was one, since the change may name it by another prefix. One that was taken away comes back behind all others: that is its place only if it was the last one.
func backAttr(f api.Forest, c api.Change) (api.Change, bool) {
	back := api.Change{
		Kind: api.ChangeAttr, Node: c.Node, Name: c.Name, Old: c.Value, Value: c.Old, Had: c.Has, Has: c.Had,
	}
	if !c.Had {
		return back, true
	}
	attrs := node(f, c.Node).Attrs
	at := attrAt(attrs, c.Name)
	if !c.Has && at < len(attrs)-1 {
		return api.Change{}, false
	}
	back.Name = attrs[at].Name
	return back, true
}

// backNothing puts the change together anew: an empty list of the one that was handed in may have room behind it.
func backNothing(_ api.Forest, c api.Change) (api.Change, bool) {
	return api.Change{
		Kind: c.Kind, Node: c.Node, Parent: c.Parent, Other: c.Other, Offset: c.Offset,
		Added: slices.Clone(c.Added), Removed: slices.Clone(c.Removed), Prev: c.Prev, Next: c.Next,
	}, true
}
