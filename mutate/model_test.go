package mutate_test

import (
	"slices"

	"canopy/api"
	"canopy/forest"
	"canopy/order"
	"canopy/sample"
	"canopy/valid"
)

// model does what the chapter's words say, word by word and without haste: each change by itself, by forest.Apply. What it can't do it refuses by a panic, which ends all.
type model struct {
	f api.Forest
	l []api.Change
}

// refusal is an error that ends what a model does.
type refusal struct{ why api.Errno }

// modelled is what a model answers of an operation.
func modelled(f api.Forest, operation func(m *model)) (g api.Forest, l []api.Change, why api.Errno) {
	defer func() {
		if bad, is := recover().(refusal); is {
			g, l, why = api.Forest{}, nil, bad.why
		}
	}()
	m := &model{f: sample.Copy(f)}
	operation(m)
	return m.f, m.l, api.OK
}

func refuse(why api.Errno) {
	if why != api.OK {
		panic(refusal{why})
	}
}

func (m *model) do(c api.Change) {
	c = sample.CopyChange(c)
	g, why := forest.Apply(m.f, c)
	refuse(why)
	m.f, m.l = g, append(m.l, c)
}

func (m *model) node(h int) api.Node { return m.f.Nodes[h-1] }

// sibling is the kid so many places behind a node, 0 if there is none.
func (m *model) sibling(h, by int) int {
	if m.node(h).Parent == 0 {
		return 0
	}
	kids := slices.Concat([]int{0}, m.node(m.node(h).Parent).Kids, []int{0})
	return kids[slices.Index(kids, h)+by]
}

func (m *model) takeAway(h int, told bool) {
	parent, prev, next := m.node(h).Parent, m.sibling(h, -1), m.sibling(h, 1)
	m.do(api.Change{Kind: api.ChangeRemove, Node: h, Parent: parent, Index: slices.Index(m.node(parent).Kids, h)})
	if told {
		m.do(api.Change{Kind: api.ChangeTree, Parent: parent, Removed: []int{h}, Prev: prev, Next: next})
	}
}

func (m *model) adopt(h, doc int) {
	if m.node(h).Parent != 0 {
		m.takeAway(h, true)
	}
	if m.node(h).Doc != doc {
		m.do(api.Change{Kind: api.ChangeAdopt, Node: h, Doc: doc})
	}
}

func (m *model) nodes(node int) []int {
	if node == 0 {
		return nil
	}
	if m.node(node).Kind == api.KindFragment {
		return slices.Clone(m.node(node).Kids)
	}
	return []int{node}
}

func (m *model) put(node, parent, child int, told bool) {
	nodes := m.nodes(node)
	if len(nodes) == 0 {
		return
	}
	if m.node(node).Kind == api.KindFragment {
		for _, h := range nodes {
			m.takeAway(h, false)
		}
		m.do(api.Change{Kind: api.ChangeTree, Parent: node, Removed: nodes})
	}
	prev := 0
	for _, kid := range m.node(parent).Kids {
		if kid == child {
			break
		}
		prev = kid
	}
	for _, h := range nodes {
		m.adopt(h, m.node(parent).Doc)
		at := slices.Index(m.node(parent).Kids, child)
		if child == 0 {
			at = len(m.node(parent).Kids)
		}
		m.do(api.Change{Kind: api.ChangeInsert, Node: h, Parent: parent, Index: at})
	}
	if told {
		m.do(api.Change{Kind: api.ChangeTree, Parent: parent, Added: nodes, Prev: prev, Next: child})
	}
}

func (m *model) insert(node, parent, child int) {
	refuse(valid.Insert(m.f, node, parent, child))
	if child == node {
		child = m.sibling(node, 1)
	}
	m.put(node, parent, child, true)
}

func (m *model) replace(node, parent, child int) {
	refuse(valid.Replace(m.f, node, parent, child))
	next, prev, nodes := m.sibling(child, 1), m.sibling(child, -1), m.nodes(node)
	if next == node {
		next = m.sibling(node, 1)
	}
	m.takeAway(child, false)
	m.put(node, parent, next, false)
	m.do(api.Change{Kind: api.ChangeTree, Parent: parent, Added: nodes, Removed: []int{child}, Prev: prev, Next: next})
}

func hasKids(n api.Node) bool {
	return slices.Contains([]api.NodeKind{api.KindElement, api.KindDocument, api.KindFragment, api.KindShadow}, n.Kind)
}

func hasData(n api.Node) bool {
	return slices.Contains([]api.NodeKind{api.KindText, api.KindCData, api.KindComment, api.KindInstruction}, n.Kind)
}

func (m *model) replaceAll(parent, node int) {
	if node != 0 {
		refuse(valid.Insert(m.f, node, parent, 0))
	}
	if !hasKids(m.node(parent)) {
		refuse(api.ErrHierarchy)
	}
	nodes, removed := m.nodes(node), slices.Clone(m.node(parent).Kids)
	for _, h := range removed {
		m.takeAway(h, false)
	}
	if node != 0 {
		m.put(node, parent, 0, false)
	}
	if len(nodes) > 0 || len(removed) > 0 {
		m.do(api.Change{Kind: api.ChangeTree, Parent: parent, Added: nodes, Removed: removed})
	}
}

func (m *model) remove(parent, child int) {
	if m.node(child).Parent != parent {
		refuse(api.ErrNotFound)
	}
	m.takeAway(child, true)
}

func (m *model) adoptInto(node, doc int) {
	if m.node(doc).Kind != api.KindDocument {
		refuse(api.ErrType)
	}
	refuse(valid.Adopt(m.f, node))
	m.adopt(node, doc)
}

func (m *model) normalize(h int) {
	all, why := order.All(m.f, h)
	refuse(why)
	for _, text := range all[1:] {
		n := m.node(text)
		if n.Kind != api.KindText || n.Parent == 0 {
			continue
		}
		if len(n.Data) == 0 {
			m.takeAway(text, true)
			continue
		}
		var run []int
		for at := m.sibling(text, 1); at != 0 && m.node(at).Kind == api.KindText; at = m.sibling(at, 1) {
			run = append(run, at)
		}
		if len(run) > 0 {
			m.merge(text, run)
		}
	}
}

func (m *model) merge(text int, run []int) {
	offsets, length := []int{}, len(m.node(text).Data)
	var data api.Units
	for _, other := range run {
		offsets = append(offsets, length+len(data))
		data = append(data, m.node(other).Data...)
	}
	if length+len(data) > api.MaxData {
		refuse(api.ErrLong)
	}
	m.do(api.Change{Kind: api.ChangeData, Node: text, Offset: length, Data: data})
	for i, other := range run {
		m.do(api.Change{Kind: api.ChangeMerge, Node: text, Other: other, Offset: offsets[i]})
	}
	for _, other := range run {
		m.takeAway(other, true)
	}
}

func (m *model) setContent(h int, data api.Units) {
	n := m.node(h)
	switch {
	case n.Kind == api.KindDocument || n.Kind == api.KindDoctype:
	case hasData(n):
		if len(data) > api.MaxData {
			refuse(api.ErrLong)
		}
		m.do(api.Change{Kind: api.ChangeData, Node: h, Count: len(n.Data), Data: data})
	case len(data) == 0:
		m.replaceAll(h, 0)
	default:
		text := len(m.f.Nodes) + 1
		m.do(api.Change{Kind: api.ChangeMake, Node: text, Made: api.Node{Kind: api.KindText, Doc: n.Doc, Data: data}})
		m.replaceAll(h, text)
	}
}

// one is one node of some.
func (m *model) one(h int, nodes []int) int {
	if len(nodes) == 1 {
		return nodes[0]
	}
	all := len(m.f.Nodes) + 1
	m.do(api.Change{Kind: api.ChangeMake, Node: all, Made: api.Node{Kind: api.KindFragment, Doc: m.node(h).Doc}})
	for _, node := range nodes {
		m.insert(node, all, 0)
	}
	return all
}

// beside is the first sibling of h, going so many places on each time, that is not among the nodes.
func (m *model) beside(h, by int, nodes []int) int {
	at := m.sibling(h, by)
	for at != 0 && slices.Contains(nodes, at) {
		at = m.sibling(at, by)
	}
	return at
}

func (m *model) before(h int, nodes []int) {
	parent, prev := m.node(h).Parent, m.beside(h, -1, nodes)
	if parent == 0 {
		return
	}
	node := m.one(h, nodes)
	if prev != 0 {
		m.insert(node, parent, m.sibling(prev, 1))
		return
	}
	m.insert(node, parent, append(slices.Clone(m.node(parent).Kids), 0)[0])
}

func (m *model) after(h int, nodes []int) {
	parent, next := m.node(h).Parent, m.beside(h, 1, nodes)
	if parent != 0 {
		m.insert(m.one(h, nodes), parent, next)
	}
}

func (m *model) replaceWith(h int, nodes []int) {
	parent, next := m.node(h).Parent, m.beside(h, 1, nodes)
	if parent == 0 {
		return
	}
	if node := m.one(h, nodes); m.node(h).Parent == parent {
		m.replace(node, parent, h)
	} else {
		m.insert(node, parent, next)
	}
}

func (m *model) prepend(h int, nodes []int) {
	node := m.one(h, nodes)
	m.insert(node, h, append(slices.Clone(m.node(h).Kids), 0)[0])
}

func (m *model) appendAll(h int, nodes []int) { m.insert(m.one(h, nodes), h, 0) }

func (m *model) replaceKids(h int, nodes []int) {
	node := m.one(h, nodes)
	refuse(valid.Insert(m.f, node, h, 0))
	m.replaceAll(h, node)
}
