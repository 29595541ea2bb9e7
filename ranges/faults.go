package ranges

import (
	"canopy/api"
	"canopy/bounds"
	"canopy/forest"
	"canopy/order"
	"canopy/points"
)

// fault is that of some ranges, and of nodes that are named beside them.
func fault(f api.Forest, ranges []api.Range, nodes ...int) api.Errno {
	n, why := points.Of(f)
	if why != api.OK {
		return why
	}
	return faultIn(n, ranges, nodes...)
}

// faultIn asks for each thing of all ranges ahead of the next thing.
func faultIn(n points.Numbers, ranges []api.Range, nodes ...int) api.Errno {
	var named []api.Bound
	for _, r := range ranges {
		named = append(named, r.Start, r.End)
	}
	for _, h := range nodes {
		named = append(named, api.Bound{Node: h})
	}
	if why := n.Wrong(named...); why != api.OK {
		return why
	}
	for _, r := range ranges {
		if !n.Valid(r) {
			return api.ErrState
		}
	}
	return api.OK
}

// refused is why ranges can't follow changes. Each range is asked all things ahead of the next one.
func refused(f api.Forest, l []api.Range, changes []api.Change) api.Errno {
	n, why := points.Of(f)
	if why != api.OK {
		return why
	}
	if len(l) > api.MaxList {
		return api.ErrMany
	}
	for i := range l {
		if why := faultIn(n, l[i:i+1]); why != api.OK {
			return why
		}
	}
	_, _, why = forest.All(f, changes)
	return why
}

// unfit is why an end of a range can't be set to a point.
func unfit(f api.Forest, r api.Range, b api.Bound) api.Errno {
	if why := fault(f, []api.Range{r}, b.Node); why != api.OK {
		return why
	}
	if kindOf(f, b.Node) == api.KindDoctype {
		return api.ErrNodeType
	}
	return bounds.Check(f, b)
}

// beside is the point next to a node, in its parent.
func beside(f api.Forest, r api.Range, side api.Side, h int) (api.Bound, api.Errno) {
	if why := fault(f, []api.Range{r}, h); why != api.OK {
		return api.Bound{}, why
	}
	if side >= api.SideCount {
		return api.Bound{}, api.ErrType
	}
	parent := f.Nodes[h-1].Parent
	if parent == 0 {
		return api.Bound{}, api.ErrNodeType
	}
	at, why := order.Index(f, h)
	if side == api.SideAfter {
		at++
	}
	return api.Bound{Node: parent, Offset: at}, why
}

func kindOf(f api.Forest, h int) api.NodeKind { return f.Nodes[h-1].Kind }

// collapsed is the range from a point to itself.
func collapsed(b api.Bound) api.Range { return api.Range{Start: b, End: b} }

// validOr is a range, if it is valid, else that from a point to itself.
func validOr(f api.Forest, r api.Range, b api.Bound) api.Range {
	if is, _ := bounds.Valid(f, r); is {
		return r
	}
	return collapsed(b)
}
