package bounds

import (
	"iter"
	"slices"

	"canopy/api"
	"canopy/chardata"
	"canopy/order"
	"canopy/points"
)

// looked are the numbers of a forest's points, if it is right and some points are such.
func looked(f api.Forest, some ...api.Bound) (points.Numbers, api.Errno) {
	n, why := points.Of(f)
	if why != api.OK {
		return points.Numbers{}, why
	}
	if why := n.Wrong(some...); why != api.OK {
		return points.Numbers{}, why
	}
	return n, api.OK
}

// settled is looked of a range, which must be valid, and of more points.
func settled(f api.Forest, r api.Range, more ...api.Bound) (points.Numbers, api.Errno) {
	n, why := looked(f, slices.Concat([]api.Bound{r.Start, r.End}, more)...)
	if why != api.OK {
		return points.Numbers{}, why
	}
	if !n.Valid(r) {
		return points.Numbers{}, api.ErrState
	}
	return n, api.OK
}

// All below is asked of right forests, and of nodes and valid ranges in them.

// start is the point before all in a node.
func start(h int) api.Bound { return api.Bound{Node: h} }

// end is the point behind all in a node.
func end(n points.Numbers, h int) api.Bound { return api.Bound{Node: h, Offset: n.Length(h)} }

// upFrom yields a node, its parent, and so on.
func upFrom(f api.Forest, h int) iter.Seq[int] {
	return func(yield func(int) bool) {
		for at := h; at != 0 && yield(at); at = f.Nodes[at-1].Parent {
		}
	}
}

// pointsOf puts the points of a node, and of what lies within it, behind a list.
func pointsOf(f api.Forest, h int, list []api.Bound) []api.Bound {
	n := f.Nodes[h-1]
	list = append(list, start(h))
	for i := range n.Data {
		list = append(list, api.Bound{Node: h, Offset: i + 1})
	}
	for i, kid := range n.Kids {
		list = append(pointsOf(f, kid, list), api.Bound{Node: h, Offset: i + 1})
	}
	return list
}

func common(f api.Forest, n points.Numbers, r api.Range) int {
	for up := range upFrom(f, r.Start.Node) {
		if n.Holds(up, r.End.Node) {
			return up
		}
	}
	return 0
}

// meets is asked of a node of the range's tree.
func meets(f api.Forest, n points.Numbers, r api.Range, h int) bool {
	parent := f.Nodes[h-1].Parent
	if parent == 0 {
		return true
	}
	at := slices.Index(f.Nodes[parent-1].Kids, h)
	ahead, behind := api.Bound{Node: parent, Offset: at}, api.Bound{Node: parent, Offset: at + 1}
	return n.Compare(ahead, r.End) < 0 && n.Compare(behind, r.Start) > 0
}

func isText(f api.Forest, h int) bool {
	kind := f.Nodes[h-1].Kind
	return kind == api.KindText || kind == api.KindCData
}

func textOf(f api.Forest, n points.Numbers, r api.Range) (api.Units, api.Errno) {
	if r.Start.Node == r.End.Node && isText(f, r.Start.Node) {
		return chardata.Substring(f, r.Start.Node, uint32(r.Start.Offset), uint32(r.End.Offset-r.Start.Offset))
	}
	// What is contained lies within the node that has both ends.
	all, why := order.All(f, common(f, n, r))
	if why != api.OK {
		return nil, why
	}
	var parts []api.Units
	if isText(f, r.Start.Node) {
		parts = append(parts, f.Nodes[r.Start.Node-1].Data[r.Start.Offset:])
	}
	for _, h := range all {
		if isText(f, h) && n.Contained(r, h) {
			parts = append(parts, f.Nodes[h-1].Data)
		}
	}
	if isText(f, r.End.Node) {
		parts = append(parts, f.Nodes[r.End.Node-1].Data[:r.End.Offset])
	}
	return slices.Concat(parts...), api.OK
}
