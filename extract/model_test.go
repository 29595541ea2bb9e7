package extract_test

import (
	"slices"

	"canopy/api"
	"canopy/bounds"
	"canopy/chardata"
	"canopy/clone"
	"canopy/forest"
	"canopy/mutate"
	"canopy/order"
	"canopy/ranges"
	"canopy/sample"
	"canopy/valid"
)

// model does what the chapter's words say, word by word and without haste, by the calls of the layers below. What it can't do it refuses by a panic, which ends all.
type model struct {
	f api.Forest
	l []api.Change
}

// refusal is an error that ends what a model does.
type refusal struct{ why api.Errno }

func refuse(why api.Errno) {
	if why != api.OK {
		panic(refusal{why})
	}
}

// answer is what a call answers: those that answer no fragment, or no range, have none.
type answer struct {
	f        api.Forest
	fragment int
	left     api.Range
	l        []api.Change
	why      api.Errno
}

// same tells whether two answers are, in all of their parts.
func (a answer) same(b answer) bool {
	return a.why == b.why && a.fragment == b.fragment && a.left == b.left && forest.Same(a.f, b.f) && sample.SameChanges(a.l, b.l)
}

// modelled is what a model answers of an operation, which answers a fragment and a range.
func modelled(f api.Forest, operation func(m *model) (int, api.Range)) (a answer) {
	defer func() {
		if bad, is := recover().(refusal); is {
			a = answer{why: bad.why}
		}
	}()
	m := &model{f: sample.Copy(f)}
	a.fragment, a.left = operation(m)
	a.f, a.l = m.f, m.l
	return a
}

// must is an answer of a call that can't be refused.
func must[T any](v T, why api.Errno) T {
	refuse(why)
	return v
}

func (m *model) do(g api.Forest, l []api.Change, why api.Errno) {
	refuse(why)
	m.f, m.l = g, append(m.l, l...)
}

func (m *model) make(n api.Node) int {
	h := len(m.f.Nodes) + 1
	c := api.Change{Kind: api.ChangeMake, Node: h, Made: n}
	m.do(must(forest.Apply(m.f, c)), []api.Change{c}, api.OK)
	return h
}

func (m *model) node(h int) api.Node { return m.f.Nodes[h-1] }

func (m *model) hasData(h int) bool {
	return slices.Contains([]api.NodeKind{api.KindText, api.KindCData, api.KindComment, api.KindInstruction}, m.node(h).Kind)
}

func (m *model) isText(h int) bool {
	return m.node(h).Kind == api.KindText || m.node(h).Kind == api.KindCData
}

func (m *model) has(a, b int) bool { return must(order.Contains(m.f, a, b)) }

func (m *model) contained(r api.Range, h int) bool {
	is, _, why := bounds.Contains(m.f, r, h)
	refuse(why)
	return is
}

func (m *model) partly(r api.Range, h int) bool {
	_, is, why := bounds.Contains(m.f, r, h)
	refuse(why)
	return is
}

// put puts a node into a parent, at the end, told. A doctype can't be put into a fragment.
func (m *model) put(node, parent int) { m.do(mutate.Append(m.f, node, parent)) }

func (m *model) cut(h, from, to int) {
	m.do(chardata.Replace(m.f, h, uint32(from), uint32(to-from), nil))
}

// copy is a copy of a node alone, with other data.
func (m *model) copy(h int, data api.Units) int {
	_, l, _, why := clone.Clone(m.f, h, false)
	refuse(why)
	n := l[0].Made
	n.Data = slices.Clone(data)
	return m.make(n)
}

func (m *model) left(r api.Range) api.Range {
	if m.has(r.Start.Node, r.End.Node) {
		return api.Range{Start: r.Start, End: r.Start}
	}
	at := r.Start.Node
	for !m.has(m.node(at).Parent, r.End.Node) {
		at = m.node(at).Parent
	}
	b := api.Bound{Node: m.node(at).Parent, Offset: must(order.Index(m.f, at)) + 1}
	return api.Range{Start: b, End: b}
}

// parts are the shared node's first part, wholes and last part.
func (m *model) parts(r api.Range) (first int, wholes []int, last int) {
	for _, kid := range m.node(must(bounds.Common(m.f, r))).Kids {
		if m.has(kid, r.Start.Node) && !m.has(r.Start.Node, r.End.Node) {
			first = kid
		}
		if m.has(kid, r.End.Node) && !m.has(r.End.Node, r.Start.Node) {
			last = kid
		}
		if m.contained(r, kid) {
			wholes = append(wholes, kid)
		}
	}
	return first, wholes, last
}

// out takes a range out, or copies it.
func (m *model) out(r api.Range, copies bool) int {
	fragment := m.make(api.Node{Kind: api.KindFragment, Doc: m.node(r.Start.Node).Doc})
	if r.Start == r.End {
		return fragment
	}
	if r.Start.Node == r.End.Node && m.hasData(r.Start.Node) {
		m.outUnits(fragment, r.Start.Node, r.Start.Offset, r.End.Offset, copies)
		return fragment
	}
	first, wholes, last := m.parts(r)
	for _, h := range wholes {
		if m.node(h).Kind == api.KindDoctype {
			refuse(api.ErrHierarchy)
		}
	}
	if first != 0 && m.hasData(first) {
		m.outUnits(fragment, first, r.Start.Offset, len(m.node(first).Data), copies)
	} else if first != 0 {
		end := api.Bound{Node: first, Offset: must(bounds.Length(m.f, first))}
		m.outPart(fragment, first, api.Range{Start: r.Start, End: end}, copies)
	}
	for _, h := range wholes {
		if copies {
			g, l, made, why := clone.Clone(m.f, h, true)
			m.do(g, l, why)
			h = made
		}
		m.put(h, fragment)
	}
	if last != 0 && m.hasData(last) {
		m.outUnits(fragment, last, 0, r.End.Offset, copies)
	} else if last != 0 {
		m.outPart(fragment, last, api.Range{Start: api.Bound{Node: last}, End: r.End}, copies)
	}
	return fragment
}

func (m *model) outUnits(fragment, h, from, to int, copies bool) {
	m.put(m.copy(h, m.node(h).Data[from:to]), fragment)
	if !copies {
		m.cut(h, from, to)
	}
}

func (m *model) outPart(fragment, part int, r api.Range, copies bool) {
	made := m.copy(part, nil)
	m.put(made, fragment)
	m.put(m.out(r, copies), made)
}

func (m *model) extract(r api.Range) (int, api.Range) {
	left := m.left(r)
	return m.out(r, false), left
}

func (m *model) copyRange(r api.Range) (int, api.Range) { return m.out(r, true), api.Range{} }

func (m *model) delete(r api.Range) (int, api.Range) {
	left := m.left(r)
	if r.Start == r.End {
		return 0, r
	}
	if r.Start.Node == r.End.Node && m.hasData(r.Start.Node) {
		m.cut(r.Start.Node, r.Start.Offset, r.End.Offset)
		return 0, api.Range{Start: r.Start, End: r.Start}
	}
	var doomed []int
	for _, h := range must(order.All(m.f, must(order.Root(m.f, r.Start.Node)))) {
		if m.contained(r, h) && !m.contained(r, m.node(h).Parent) {
			doomed = append(doomed, h)
		}
	}
	if m.hasData(r.Start.Node) {
		m.cut(r.Start.Node, r.Start.Offset, len(m.node(r.Start.Node).Data))
	}
	for _, h := range doomed {
		m.do(mutate.Remove(m.f, m.node(h).Parent, h))
	}
	if m.hasData(r.End.Node) {
		m.cut(r.End.Node, 0, r.End.Offset)
	}
	return 0, left
}

func (m *model) insert(r api.Range, node int) (int, api.Range) {
	was, begun, start := m.f, len(m.l), r.Start.Node
	text := m.isText(start)
	if k := m.node(start).Kind; k == api.KindInstruction || k == api.KindComment || text && m.node(start).Parent == 0 || start == node {
		refuse(api.ErrHierarchy)
	}
	next := start
	if !text {
		next = append(slices.Clone(m.node(start).Kids), make([]int, r.Start.Offset+1)...)[r.Start.Offset]
	}
	parent := start
	if next != 0 {
		parent = m.node(next).Parent
	}
	refuse(valid.Insert(m.f, node, parent, next))
	if text {
		g, made, l, why := chardata.Split(m.f, start, uint32(r.Start.Offset))
		m.do(g, l, why)
		next = made
	}
	if next == node {
		kids := append(slices.Clone(m.node(parent).Kids), 0)
		next = kids[slices.Index(kids, node)+1]
	}
	if m.node(node).Parent != 0 {
		m.do(mutate.Remove(m.f, m.node(node).Parent, node))
	}
	offset := slices.Index(append(slices.Clone(m.node(parent).Kids), 0), next) + 1
	if m.node(node).Kind == api.KindFragment {
		offset += len(m.node(node).Kids) - 1
	}
	m.do(mutate.Insert(m.f, node, parent, next))
	left := must(ranges.Fold(was, []api.Range{r}, m.l[begun:]))[0]
	if r.Start == r.End {
		left.End = api.Bound{Node: parent, Offset: offset}
	}
	return 0, left
}

func (m *model) surround(r api.Range, node int) (int, api.Range) {
	for i := range m.f.Nodes {
		if !m.isText(i+1) && m.partly(r, i+1) {
			refuse(api.ErrState)
		}
	}
	if slices.Contains([]api.NodeKind{api.KindDocument, api.KindDoctype, api.KindFragment, api.KindShadow}, m.node(node).Kind) {
		refuse(api.ErrNodeType)
	}
	fragment, left := m.extract(r)
	behind, begun := m.f, len(m.l)
	if len(m.node(node).Kids) > 0 {
		m.do(mutate.ReplaceAll(m.f, node, 0))
	}
	m.insert(must(ranges.Fold(behind, []api.Range{left}, m.l[begun:]))[0], node)
	m.put(fragment, node)
	ahead := api.Bound{Node: m.node(node).Parent, Offset: must(order.Index(m.f, node))}
	return 0, api.Range{Start: ahead, End: api.Bound{Node: ahead.Node, Offset: ahead.Offset + 1}}
}
