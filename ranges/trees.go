package ranges

import (
	"slices"

	"canopy/api"
)

// trees is what ends go by in a forest (kinds, data, parents and kids), for changes to be followed there one by one: forest.Apply would go over, and copy, all of a forest for each of them. Whoever hands in a change knows that it can be done. Lists of kids are its own; data are those that were handed in, so that they are never written into.
type trees struct{ nodes []api.Node }

func treesOf(f api.Forest) *trees {
	t := &trees{make([]api.Node, 0, len(f.Nodes))}
	for _, n := range f.Nodes {
		t.nodes = append(t.nodes, api.Node{Kind: n.Kind, Data: n.Data, Parent: n.Parent, Kids: slices.Clone(n.Kids)})
	}
	return t
}

func (t *trees) node(h int) *api.Node { return &t.nodes[h-1] }

func (t *trees) rest(api.Change) {}

func (t *trees) grow(c api.Change) {
	t.nodes = append(t.nodes, api.Node{Kind: c.Made.Kind, Data: c.Made.Data})
}

func (t *trees) growShadow(api.Change) {
	t.nodes = append(t.nodes, api.Node{Kind: api.KindShadow})
}

func (t *trees) insert(c api.Change) {
	parent := t.node(c.Parent)
	parent.Kids = slices.Insert(parent.Kids, c.Index, c.Node)
	t.node(c.Node).Parent = c.Parent
}

func (t *trees) remove(c api.Change) {
	parent := t.node(c.Parent)
	parent.Kids = slices.Delete(parent.Kids, c.Index, c.Index+1)
	t.node(c.Node).Parent = 0
}

func (t *trees) replace(c api.Change) {
	n := t.node(c.Node)
	n.Data = slices.Concat(n.Data[:c.Offset], c.Data, n.Data[c.Offset+c.Count:])
}

// within tells, by handles, which nodes are a node or lie within it.
func (t *trees) within(h int) []bool {
	is := make([]bool, len(t.nodes)+1)
	var mark func(int)
	mark = func(at int) {
		is[at] = true
		for _, kid := range t.node(at).Kids {
			mark(kid)
		}
	}
	mark(h)
	return is
}

// siblings are the kids of a node's parent, and its place among them; that is -1, if there is no node, or no parent.
func (t *trees) siblings(h int) ([]int, int) {
	if h == 0 || t.node(h).Parent == 0 {
		return nil, -1
	}
	kids := t.node(t.node(h).Parent).Kids
	return kids, slices.Index(kids, h)
}

// ahead is the point right ahead of a node that has a parent.
func (t *trees) ahead(h int) api.Bound {
	_, at := t.siblings(h)
	return api.Bound{Node: t.node(h).Parent, Offset: at}
}

// haveData tells whether each of some nodes is of a kind that has data.
func (t *trees) haveData(some ...int) bool {
	return !slices.ContainsFunc(some, func(h int) bool {
		switch t.node(h).Kind {
		case api.KindText, api.KindCData, api.KindComment, api.KindInstruction:
			return false
		}
		return true
	})
}

// reaches tells whether an offset is one of a node's data.
func (t *trees) reaches(h, offset int) bool { return offset >= 0 && offset <= len(t.node(h).Data) }
