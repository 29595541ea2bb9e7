package ranges

import (
	"slices"

	"canopy/api"
	"canopy/draft"
)

// trees is what ends go by in a forest, for changes to be followed there one by one. Whoever hands in a change knows that it can be done.
type trees struct{ *draft.Draft }

func treesOf(f api.Forest) trees { return trees{draft.Of(f)} }

// within tells, by handles, which nodes are a node or lie within it.
func (t trees) within(h int) []bool {
	is := make([]bool, len(t.Forest.Nodes)+1)
	var mark func(int)
	mark = func(at int) {
		is[at] = true
		for _, kid := range t.Node(at).Kids {
			mark(kid)
		}
	}
	mark(h)
	return is
}

// siblings are the kids of a node's parent, and its place among them; that is -1, if there is no node, or no parent.
func (t trees) siblings(h int) ([]int, int) {
	if h == 0 || t.Node(h).Parent == 0 {
		return nil, -1
	}
	kids := t.Node(t.Node(h).Parent).Kids
	return kids, slices.Index(kids, h)
}

// ahead is the point right ahead of a node that has a parent.
func (t trees) ahead(h int) api.Bound {
	_, at := t.siblings(h)
	return api.Bound{Node: t.Node(h).Parent, Offset: at}
}

// haveData tells whether each of some nodes is of a kind that has data.
func (t trees) haveData(some ...int) bool {
	return !slices.ContainsFunc(some, func(h int) bool {
		switch t.Node(h).Kind {
		case api.KindText, api.KindCData, api.KindComment, api.KindInstruction:
			return false
		}
		return true
	})
}

// reaches tells whether an offset is one of a node's data.
func (t trees) reaches(h, offset int) bool { return offset >= 0 && offset <= len(t.Node(h).Data) }
