package draft

import (
	"slices"

	"canopy/api"
)

// Follow has the forest as it is behind a change. The lists of a change are not written into either, nor the room behind them.
func (d *Draft) Follow(c api.Change) {
	switch c.Kind {
	case api.ChangeMake:
		d.grow(c.Made)
	case api.ChangeShadow:
		host := d.Node(c.Node)
		host.Shadow = c.Other
		d.grow(api.Node{Kind: api.KindShadow, Doc: host.Doc, Host: c.Node, Mode: c.Made.Mode, Manual: c.Made.Manual})
	case api.ChangeInsert:
		parent := d.Node(c.Parent)
		parent.Kids = slices.Insert(parent.Kids, c.Index, c.Node)
		d.Node(c.Node).Parent = c.Parent
	case api.ChangeRemove:
		parent := d.Node(c.Parent)
		parent.Kids = slices.Delete(parent.Kids, c.Index, c.Index+1)
		d.Node(c.Node).Parent = 0
	case api.ChangeAdopt:
		for h := range d.Below(c.Node) {
			d.Node(h).Doc = c.Doc
		}
	case api.ChangeData:
		n := d.Node(c.Node)
		n.Data = slices.Concat(n.Data[:c.Offset], c.Data, n.Data[c.Offset+c.Count:])
	case api.ChangeAttr:
		n := d.Node(c.Node)
		n.Attrs = attrsBehind(n.Attrs, c)
	}
}

// grow has a node more. It has no kids, but its list of them may have room.
func (d *Draft) grow(n api.Node) {
	n.Kids = nil
	d.Forest.Nodes = append(d.Forest.Nodes, n)
}

// attrsBehind are attributes behind a change of one.
func attrsBehind(l []api.Attr, c api.Change) []api.Attr {
	at := slices.IndexFunc(l, func(a api.Attr) bool { return a.Name.Space == c.Name.Space && a.Name.Local == c.Name.Local })
	switch {
	case at < 0:
		return slices.Concat(l, []api.Attr{{Name: c.Name, Value: c.Value}})
	case !c.Has:
		return slices.Concat(l[:at], l[at+1:])
	}
	l = slices.Clone(l)
	l[at].Value = c.Value
	return l
}

// Do does a change, and notes it.
func (d *Draft) Do(c api.Change) {
	d.Changes = append(d.Changes, c)
	d.Follow(c)
}

// Take goes on by what a call of another layer answers of the draft's forest.
func (d *Draft) Take(g api.Forest, l []api.Change, why api.Errno) api.Errno {
	if why == api.OK {
		d.Forest, d.Changes = g, append(d.Changes, l...)
	}
	return why
}

// Tell tells what became of a parent's kids. The lists are the change's from now on: none may be told twice.
func (d *Draft) Tell(parent int, added, removed []int, prev, next int) {
	d.Do(api.Change{Kind: api.ChangeTree, Parent: parent, Added: added, Removed: removed, Prev: prev, Next: next})
}

// Make has a node more, and its handle.
func (d *Draft) Make(n api.Node) (int, api.Errno) {
	h := len(d.Forest.Nodes) + 1
	if h > api.MaxNodes {
		return 0, api.ErrMany
	}
	if len(n.Data) > api.MaxData {
		return 0, api.ErrLong
	}
	d.Do(api.Change{Kind: api.ChangeMake, Node: h, Made: n})
	return h, api.OK
}

// Replace has other data in the place of so many units from an offset on.
func (d *Draft) Replace(h, offset, count int, data api.Units) {
	d.Do(api.Change{Kind: api.ChangeData, Node: h, Offset: offset, Count: count, Data: data})
}

// Remove takes a kid away, which is not told.
func (d *Draft) Remove(h int) {
	parent := d.Node(h).Parent
	d.Do(api.Change{Kind: api.ChangeRemove, Node: h, Parent: parent, Index: d.Place(parent, h)})
}

// Leave takes a kid away, which is told.
func (d *Draft) Leave(h int) {
	parent, prev, next := d.Node(h).Parent, d.Ahead(h), d.Behind(h)
	d.Remove(h)
	d.Tell(parent, nil, []int{h}, prev, next)
}

// Adopt takes a node from where it is, and has it belong to a document.
func (d *Draft) Adopt(h, doc int) {
	if d.Node(h).Parent != 0 {
		d.Leave(h)
	}
	if d.Node(h).Doc != doc {
		d.Do(api.Change{Kind: api.ChangeAdopt, Node: h, Doc: doc})
	}
}

// hang has a node that hangs nowhere in a parent, ahead of a child.
func (d *Draft) hang(h, parent, child int) {
	d.Do(api.Change{Kind: api.ChangeInsert, Node: h, Parent: parent, Index: d.Place(parent, child)})
}

// Nodes are those that come where a node is put: the kids of a fragment, else it alone.
func (d *Draft) Nodes(node int) []int {
	if d.Is(node, api.KindFragment) {
		return slices.Clone(d.Node(node).Kids)
	}
	return []int{node}
}

// Put has a node, or the kids of a fragment, in a parent ahead of a child (0: at the end). Where they come from is told; that they came is not.
func (d *Draft) Put(node, parent, child int) {
	nodes := d.Nodes(node)
	if len(nodes) == 0 {
		return
	}
	if d.Is(node, api.KindFragment) {
		for _, h := range nodes {
			d.Remove(h)
		}
		d.Tell(node, nil, nodes, 0, 0)
	}
	for _, h := range nodes {
		d.Adopt(h, d.Node(parent).Doc)
		d.hang(h, parent, child)
	}
}

// PutTold is Put, and tells that they came. What stood ahead of the child is asked for first: it may be the node itself.
func (d *Draft) PutTold(node, parent, child int) {
	nodes, prev := d.Nodes(node), d.AheadOf(parent, child)
	if len(nodes) == 0 {
		return
	}
	d.Put(node, parent, child)
	d.Tell(parent, nodes, nil, prev, child)
}
