package chardata

import (
	"slices"

	"canopy/api"
	"canopy/forest"
	"canopy/units"
)

func isText(k api.NodeKind) bool { return k == api.KindText || k == api.KindCData }

func hasData(k api.NodeKind) bool {
	return isText(k) || k == api.KindComment || k == api.KindInstruction
}

func kindOf(f api.Forest, h int) api.NodeKind { return f.Nodes[h-1].Kind }

// nodeOf is the node of a handle, if its kind is one of those that are asked for.
func nodeOf(f api.Forest, h int, asked func(api.NodeKind) bool) (api.Node, api.Errno) {
	if why, _ := forest.Check(f); why != api.OK {
		return api.Node{}, why
	}
	if h < 1 || h > len(f.Nodes) {
		return api.Node{}, api.ErrRange
	}
	if !asked(kindOf(f, h)) {
		return api.Node{}, api.ErrType
	}
	return f.Nodes[h-1], api.OK
}

// joined are the units of some nodes, put together.
func joined(f api.Forest, handles ...int) api.Units {
	var all api.Units
	for _, h := range handles {
		all = append(all, f.Nodes[h-1].Data...)
	}
	return all
}

// siblings are the kids of a node's parent, and where it stands among them; the node alone, if it has no parent.
func siblings(f api.Forest, h int) ([]int, int) {
	parent := f.Nodes[h-1].Parent
	if parent == 0 {
		return []int{h}, 0
	}
	kids := f.Nodes[parent-1].Kids
	return kids, slices.Index(kids, h)
}

// runOf are the texts that stand right beside a text, one beside the other, and it.
func runOf(f api.Forest, h int) []int {
	kids, at := siblings(f, h)
	from, to := at, at+1
	for from > 0 && isText(kindOf(f, kids[from-1])) {
		from--
	}
	for to < len(kids) && isText(kindOf(f, kids[to])) {
		to++
	}
	return kids[from:to]
}

// replaced has data in the place of what is told, of data of a length, by an offset and a count.
func replaced(f api.Forest, h int, data api.Units, what func(length uint32) (uint32, uint32)) (api.Forest, []api.Change, api.Errno) {
	n, why := nodeOf(f, h, hasData)
	if why != api.OK {
		return api.Forest{}, nil, why
	}
	length := uint32(len(n.Data))
	offset, count := what(length)
	// Asked for its error alone: a change that would have too many units is an ErrRange of the forest's.
	if _, why := units.Replace(n.Data, offset, count, data); why != api.OK {
		return api.Forest{}, nil, why
	}
	return done(f, api.Change{
		Kind: api.ChangeData, Node: h, Offset: int(offset), Count: int(min(count, length-offset)), Data: slices.Clone(data),
	})
}

// splitting are the changes that have a text's last units, the tail, in one of its own. They are put in ahead of being cut off, so that whoever follows the changes knows where they went.
func splitting(f api.Forest, h int, tail api.Units) []api.Change {
	n, other := f.Nodes[h-1], len(f.Nodes)+1
	offset := len(n.Data) - len(tail)
	steps := []api.Change{{
		Kind: api.ChangeMake, Node: other, Made: api.Node{Kind: api.KindText, Doc: n.Doc, Data: tail},
	}}
	if n.Parent != 0 {
		kids, at := siblings(f, h)
		steps = append(steps,
			api.Change{Kind: api.ChangeInsert, Node: other, Parent: n.Parent, Index: at + 1},
			api.Change{Kind: api.ChangeTree, Parent: n.Parent, Added: []int{other}, Prev: h, Next: firstOf(kids[at+1:])},
			api.Change{Kind: api.ChangeSplit, Node: h, Other: other, Offset: offset},
		)
	}
	return append(steps, api.Change{Kind: api.ChangeData, Node: h, Offset: offset, Count: len(tail)})
}

// firstOf is the first one of some handles, 0 if there is none.
func firstOf(handles []int) int {
	if len(handles) == 0 {
		return 0
	}
	return handles[0]
}

// done is the forest behind some changes, and these.
func done(f api.Forest, l ...api.Change) (api.Forest, []api.Change, api.Errno) {
	g, _, why := forest.All(f, l)
	if why != api.OK {
		return api.Forest{}, nil, why
	}
	return g, l, api.OK
}
