package forest

import (
	"slices"

	"canopy/api"
	"canopy/units"
)

// The fields that a kind of change may have, a bit for each.
const (
	ofNode = 1 << iota
	ofParent
	ofIndex
	ofOther
	ofDoc
	ofOffset
	ofCount
	ofData
	ofName
	ofOld
	ofValue
	ofHad
	ofHas
	ofMade
	ofAdded
	ofRemoved
	ofPrev
	ofNext
)

// craft is what must be known of a kind of change: which fields it has, how it is done, how it is taken back.
type craft struct {
	fields int
	do     func(f *api.Forest, c api.Change) bool
	back   func(f api.Forest, c api.Change) (api.Change, bool)
}

func crafts() map[api.ChangeKind]craft {
	return map[api.ChangeKind]craft{
		api.ChangeMake:   {ofNode | ofMade, doMake, backNever},
		api.ChangeInsert: {ofNode | ofParent | ofIndex, doInsert, backInsert},
		api.ChangeRemove: {ofNode | ofParent | ofIndex, doRemove, backRemove},
		api.ChangeAdopt:  {ofNode | ofDoc, doAdopt, backAdopt},
		api.ChangeData:   {ofNode | ofOffset | ofCount | ofData, doData, backData},
		api.ChangeAttr:   {ofNode | ofName | ofOld | ofValue | ofHad | ofHas, doAttr, backAttr},
		api.ChangeShadow: {ofNode | ofOther | ofMade, doShadow, backNever},
		api.ChangeSplit:  {ofNode | ofOther | ofOffset, doNothing, backNothing},
		api.ChangeMerge:  {ofNode | ofOther | ofOffset, doNothing, backNothing},
		api.ChangeTree:   {ofParent | ofAdded | ofRemoved | ofPrev | ofNext, doNothing, backNothing},
	}
}

// fieldsOf are the fields of a change that are not zero.
func fieldsOf(c api.Change) int {
	set := 0
	for i, is := range []bool{
		c.Node != 0, c.Parent != 0, c.Index != 0, c.Other != 0, c.Doc != 0, c.Offset != 0, c.Count != 0,
		len(c.Data) > 0, c.Name != api.Name{}, c.Old != "", c.Value != "", c.Had, c.Has,
		!sameNode(c.Made, api.Node{}), len(c.Added) > 0, len(c.Removed) > 0, c.Prev != 0, c.Next != 0,
	} {
		if is {
			set |= 1 << i
		}
	}
	return set
}

// doAll does changes to a copy of a right forest. Since that is thrown away where one is refused, none has to look at all ahead of touching it.
func doAll(f api.Forest, l ...api.Change) (api.Forest, int, api.Errno) {
	g, by := copyOf(f), crafts()
	for i, c := range l {
		if makesNode(c.Kind) && len(g.Nodes) >= api.MaxNodes {
			return api.Forest{}, i, api.ErrMany
		}
		way, is := by[c.Kind]
		if !is || fieldsOf(c)&^way.fields != 0 || !way.do(&g, c) {
			return api.Forest{}, i, api.ErrRange
		}
	}
	return g, len(l), api.OK
}

func makesNode(k api.ChangeKind) bool { return k == api.ChangeMake || k == api.ChangeShadow }

// doMake asks of the new node alone what right is: no other one can have named it.
func doMake(f *api.Forest, c api.Change) bool {
	m := c.Made
	if c.Node != len(f.Nodes)+1 || m.Kind == api.KindShadow || !wellMade(m) ||
		!allZero(m.Parent, m.Shadow, len(m.Kids)) {
		return false
	}
	f.Nodes = append(f.Nodes, copyOfNode(m))
	return rightDoc(*f, c.Node)
}

func doInsert(f *api.Forest, c api.Change) bool {
	if !there(*f, c.Node, c.Parent) {
		return false
	}
	n, parent := node(*f, c.Node), node(*f, c.Parent)
	if n.Parent != 0 || n.Doc != parent.Doc || !hasKids(parent.Kind) || c.Index < 0 || c.Index > len(parent.Kids) {
		return false
	}
	for up := range upFrom(*f, c.Parent) {
		if up == c.Node {
			return false
		}
	}
	n.Parent = c.Parent
	parent.Kids = slices.Insert(parent.Kids, c.Index, c.Node)
	return rightKids(*f, c.Parent)
}

func doRemove(f *api.Forest, c api.Change) bool {
	if !there(*f, c.Node, c.Parent) {
		return false
	}
	parent := node(*f, c.Parent)
	if c.Index < 0 || c.Index >= len(parent.Kids) || parent.Kids[c.Index] != c.Node {
		return false
	}
	node(*f, c.Node).Parent = 0
	parent.Kids = slices.Delete(parent.Kids, c.Index, c.Index+1)
	return true
}

func doAdopt(f *api.Forest, c api.Change) bool {
	if !there(*f, c.Node) || !isOf(*f, c.Doc, api.KindDocument) {
		return false
	}
	n := node(*f, c.Node)
	if n.Kind == api.KindDocument || n.Kind == api.KindShadow || n.Parent != 0 {
		return false
	}
	for h := range below(*f, c.Node) {
		node(*f, h).Doc = c.Doc
	}
	return true
}

// doData asks for all Count units itself: units.Replace is content with those that are left.
func doData(f *api.Forest, c api.Change) bool {
	if !there(*f, c.Node) {
		return false
	}
	n := node(*f, c.Node)
	if !hasData(n.Kind) || c.Offset < 0 || c.Count < 0 || c.Count > len(n.Data)-c.Offset {
		return false
	}
	data, why := units.Replace(n.Data, uint32(c.Offset), uint32(c.Count), c.Data)
	n.Data = data
	return why == api.OK
}

func doAttr(f *api.Forest, c api.Change) bool {
	if !isOf(*f, c.Node, api.KindElement) || !c.Had && !c.Has || !c.Has && c.Value != "" {
		return false
	}
	n := node(*f, c.Node)
	at, old := attrAt(n.Attrs, c.Name), ""
	if at >= 0 {
		old = n.Attrs[at].Value
	}
	if c.Had != (at >= 0) || c.Old != old {
		return false
	}
	switch {
	case !c.Had:
		n.Attrs = append(n.Attrs, api.Attr{Name: c.Name, Value: c.Value})
	case c.Has:
		n.Attrs[at].Value = c.Value
	default:
		n.Attrs = slices.Delete(n.Attrs, at, at+1)
	}
	return rightAttrs(n.Attrs)
}

func doShadow(f *api.Forest, c api.Change) bool {
	root := api.Node{Kind: api.KindShadow, Mode: c.Made.Mode, Manual: c.Made.Manual}
	if !isOf(*f, c.Node, api.KindElement) || c.Other != len(f.Nodes)+1 || !sameNode(c.Made, root) || !rightMode(root) {
		return false
	}
	host := node(*f, c.Node)
	if host.Shadow != 0 {
		return false
	}
	host.Shadow = c.Other
	root.Doc, root.Host = host.Doc, c.Node
	f.Nodes = append(f.Nodes, root)
	return true
}

// doNothing is how changes are done that only tell: of nodes that are there.
func doNothing(f *api.Forest, c api.Change) bool {
	named := slices.Concat([]int{c.Node, c.Other, c.Parent, c.Prev, c.Next}, c.Added, c.Removed)
	return there(*f, slices.DeleteFunc(named, func(h int) bool { return h == 0 })...)
}
