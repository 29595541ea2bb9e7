package extract

import (
	"slices"

	"canopy/api"
	"canopy/bounds"
	"canopy/clone"
	"canopy/draft"
	"canopy/order"
	"canopy/points"
)

// cut is a valid range, and a draft of its forest that something is done to. What lies in the range goes by the forest that was handed in.
type cut struct {
	*draft.Draft
	was     api.Forest
	numbers points.Numbers
	span    api.Range
	shared  int // the range's shared node
}

func cutOf(f api.Forest, r api.Range) (*cut, api.Errno) {
	shared, why := bounds.Common(f, r)
	if why != api.OK {
		return nil, why
	}
	n, why := points.Of(f)
	if why != api.OK {
		return nil, why
	}
	return &cut{draft.Of(f), f, n, r, shared}, api.OK
}

// done is the answer of steps that made a fragment, 0 for none.
func (c *cut) done(fragment int, why api.Errno) (api.Forest, int, []api.Change, api.Errno) {
	if why != api.OK {
		return api.Forest{}, 0, nil, why
	}
	g, l, why := c.Done()
	if why != api.OK {
		return api.Forest{}, 0, nil, why
	}
	return g, fragment, l, api.OK
}

func kindOf(f api.Forest, h int) api.NodeKind { return f.Nodes[h-1].Kind }

func isText(f api.Forest, h int) bool {
	return kindOf(f, h) == api.KindText || kindOf(f, h) == api.KindCData
}

func hasData(f api.Forest, h int) bool {
	return isText(f, h) || kindOf(f, h) == api.KindComment || kindOf(f, h) == api.KindInstruction
}

// kidOver is the kid of a node that is another one, or has it within it; 0, if that is the node itself.
func (c *cut) kidOver(parent, h int) int {
	kid := 0
	for at := h; at != parent; at = c.was.Nodes[at-1].Parent {
		kid = at
	}
	return kid
}

// left is the range from the point that is left to itself. Start's node is or has End's just if it is the shared one.
func (c *cut) left() api.Range {
	b := c.span.Start
	if first := c.kidOver(c.shared, b.Node); first != 0 {
		b = api.Bound{Node: c.shared, Offset: slices.Index(c.was.Nodes[c.shared-1].Kids, first) + 1}
	}
	return api.Range{Start: b, End: b}
}

// manner is how what lies in a range comes into a fragment: what is put there for a whole, and what becomes of units of which a copy was put there.
type manner struct {
	whole func(h int) (int, api.Errno)
	units func(h, offset, count int)
}

// taken has what lies in the range in a fragment.
func (c *cut) taken() (int, api.Errno) {
	return c.gathered(manner{
		whole: func(h int) (int, api.Errno) { return h, api.OK },
		units: func(h, offset, count int) { c.Replace(h, offset, count, nil) },
	})
}

// copied has a copy of what lies in the range in a fragment.
func (c *cut) copied() (int, api.Errno) {
	return c.gathered(manner{whole: c.deepCopy, units: func(int, int, int) {}})
}

// gatherer has what lies in a range, whose shared node is told with it, in a fragment.
type gatherer func(shared int, r api.Range) (int, api.Errno)

func (c *cut) gathered(how manner) (int, api.Errno) {
	var gather gatherer
	gather = func(shared int, r api.Range) (int, api.Errno) {
		fragment, why := c.Make(api.Node{Kind: api.KindFragment, Doc: c.was.Nodes[r.Start.Node-1].Doc})
		switch {
		case why != api.OK || r.Start == r.End:
			return fragment, why
		case hasData(c.was, shared):
			return fragment, c.putUnits(fragment, r, how)
		}
		return fragment, c.fill(fragment, shared, r, how, gather)
	}
	return gather(c.shared, c.span)
}

// fill has the parts and the wholes of a range in a fragment.
func (c *cut) fill(fragment, shared int, r api.Range, how manner, gather gatherer) api.Errno {
	first, last := c.kidOver(shared, r.Start.Node), c.kidOver(shared, r.End.Node)
	wholes := slices.DeleteFunc(slices.Clone(c.was.Nodes[shared-1].Kids), func(kid int) bool { return !c.numbers.Contained(r, kid) })
	if slices.ContainsFunc(wholes, c.isDoctype) {
		return api.ErrHierarchy
	}
	if first != 0 {
		end := api.Bound{Node: first, Offset: c.numbers.Length(first)}
		if why := c.putPart(fragment, first, api.Range{Start: r.Start, End: end}, how, gather); why != api.OK {
			return why
		}
	}
	for _, h := range wholes {
		node, why := how.whole(h)
		if why != api.OK {
			return why
		}
		c.PutTold(node, fragment, 0)
	}
	if last == 0 {
		return api.OK
	}
	return c.putPart(fragment, last, api.Range{Start: api.Bound{Node: last}, End: r.End}, how, gather)
}

// putPart puts a copy of a part into a fragment, with what of the range lies in the part.
func (c *cut) putPart(fragment, part int, r api.Range, how manner, gather gatherer) api.Errno {
	if hasData(c.was, part) {
		return c.putUnits(fragment, r, how)
	}
	made, why := c.Make(c.bare(part))
	switch {
	case why != api.OK:
		return why
	case c.isDoctype(part): // a hand-made range may have an end there, but no fragment has a doctype
		return api.ErrHierarchy
	}
	c.PutTold(made, fragment, 0)
	within, why := gather(part, r)
	if why != api.OK {
		return why
	}
	c.PutTold(within, made, 0)
	return api.OK
}

// putUnits puts a copy of a node that has both ends of a range into a fragment, with the units between.
func (c *cut) putUnits(fragment int, r api.Range, how manner) api.Errno {
	h, offset, count := r.Start.Node, r.Start.Offset, r.End.Offset-r.Start.Offset
	n := c.bare(h)
	n.Data = slices.Clone(c.was.Nodes[h-1].Data[offset : offset+count])
	made, why := c.Make(n)
	if why != api.OK {
		return why
	}
	c.PutTold(made, fragment, 0)
	how.units(h, offset, count)
	return api.OK
}

func (c *cut) isDoctype(h int) bool { return kindOf(c.was, h) == api.KindDoctype }

// bare is a copy of a node alone.
func (c *cut) bare(h int) api.Node {
	return clone.Changes(c.was, h, c.was.Nodes[h-1].Doc, false)[0].Made
}

// deepCopy has a copy of a node and of what lies within it, and its handle.
func (c *cut) deepCopy(h int) (int, api.Errno) {
	l, first := clone.Changes(c.Forest, h, c.Node(h).Doc, true), len(c.Forest.Nodes)+1
	for _, change := range l {
		if change.Kind == api.ChangeMake && change.Node > api.MaxNodes {
			return 0, api.ErrMany
		}
		c.Do(change)
	}
	return first, api.OK
}

// deleted has nowhere what lies in the range.
func (c *cut) deleted() api.Errno {
	start, end := c.span.Start, c.span.End
	switch {
	case start == end:
		return api.OK
	case hasData(c.was, c.shared):
		c.Replace(c.shared, start.Offset, end.Offset-start.Offset, nil)
		return api.OK
	}
	all, why := order.All(c.was, c.shared)
	if why != api.OK {
		return why
	}
	if hasData(c.was, start.Node) {
		c.Replace(start.Node, start.Offset, c.numbers.Length(start.Node)-start.Offset, nil)
	}
	for _, h := range all[1:] {
		if c.contained(h) && !c.contained(c.was.Nodes[h-1].Parent) {
			c.Leave(h)
		}
	}
	if hasData(c.was, end.Node) {
		c.Replace(end.Node, 0, end.Offset, nil)
	}
	return api.OK
}

func (c *cut) contained(h int) bool { return c.numbers.Contained(c.span, h) }
