package mutate

import (
	"slices"

	"canopy/api"
)

// The methods here do a change, or some, to a working copy, and note it. Who calls them has seen that it can be done.

func (w *work) note(c api.Change) { w.changes = append(w.changes, c) }

// tell notes what became of a parent's kids. The lists are the change's from now on: none may be told twice.
func (w *work) tell(parent int, added, removed []int, prev, next int) {
	w.note(api.Change{Kind: api.ChangeTree, Parent: parent, Added: added, Removed: removed, Prev: prev, Next: next})
}

// grow has a node more, and its handle.
func (w *work) grow(n api.Node) (int, api.Errno) {
	h := len(w.forest.Nodes) + 1
	if h > api.MaxNodes {
		return 0, api.ErrMany
	}
	if len(n.Data) > api.MaxData {
		return 0, api.ErrLong
	}
	w.note(api.Change{Kind: api.ChangeMake, Node: h, Made: n})
	w.forest.Nodes = append(w.forest.Nodes, n)
	return h, api.OK
}

// remove takes a kid away, which is not told.
func (w *work) remove(h int) {
	n := w.node(h)
	at := w.place(n.Parent, h)
	w.note(api.Change{Kind: api.ChangeRemove, Node: h, Parent: n.Parent, Index: at})
	parent := w.node(n.Parent)
	parent.Kids = slices.Delete(parent.Kids, at, at+1)
	n.Parent = 0
}

// leave takes a kid away, which is told.
func (w *work) leave(h int) {
	parent, prev, next := w.node(h).Parent, w.ahead(h), w.behind(h)
	w.remove(h)
	w.tell(parent, nil, []int{h}, prev, next)
}

// adopt takes a node from where it is, and has it belong to a document.
func (w *work) adopt(h, doc int) {
	if w.node(h).Parent != 0 {
		w.leave(h)
	}
	if w.node(h).Doc == doc {
		return
	}
	w.note(api.Change{Kind: api.ChangeAdopt, Node: h, Doc: doc})
	for at := range w.below(h) {
		w.node(at).Doc = doc
	}
}

// hang has a node that hangs nowhere in a parent, ahead of a child.
func (w *work) hang(h, parent, child int) {
	at := w.place(parent, child)
	w.note(api.Change{Kind: api.ChangeInsert, Node: h, Parent: parent, Index: at})
	n := w.node(parent)
	n.Kids = slices.Insert(n.Kids, at, h)
	w.node(h).Parent = parent
}

// extend has more data behind those of a text.
func (w *work) extend(text int, data api.Units) {
	n := w.node(text)
	w.note(api.Change{Kind: api.ChangeData, Node: text, Offset: len(n.Data), Data: data})
	n.Data = slices.Concat(n.Data, data)
}

// nodesOf are those that come where a node is put: the kids of a fragment, else it alone.
func (w *work) nodesOf(node int) []int {
	if w.is(node, api.KindFragment) {
		return slices.Clone(w.node(node).Kids)
	}
	return []int{node}
}

// put has a node, or the kids of a fragment, in a parent ahead of a child. Where they come from is told; that they came is not.
func (w *work) put(node, parent, child int) {
	nodes := w.nodesOf(node)
	if len(nodes) == 0 {
		return
	}
	if w.is(node, api.KindFragment) {
		each(nodes, w.remove)
		w.tell(node, nil, nodes, 0, 0)
	}
	for _, h := range nodes {
		w.adopt(h, w.node(parent).Doc)
		w.hang(h, parent, child)
	}
}

// putTold is put, and tells that they came. What stood ahead of the child is asked for first: it may be the node itself.
func (w *work) putTold(node, parent, child int) {
	nodes, prev := w.nodesOf(node), w.aheadOf(parent, child)
	if len(nodes) == 0 {
		return
	}
	w.put(node, parent, child)
	w.tell(parent, nodes, nil, prev, child)
}
