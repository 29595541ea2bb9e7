package factory

import (
	"slices"

	"canopy/api"
	"canopy/forest"
	"canopy/mutate"
)

// changer changes a forest, and knows by which changes it became what it is. Once a change could not be done, none is any more.
type changer struct {
	forest  api.Forest
	changes []api.Change
	why     api.Errno
}

// next is the handle that the next node gets.
func (c *changer) next() int { return len(c.forest.Nodes) + 1 }

// do goes on by what a step answers.
func (c *changer) do(step func(api.Forest) (api.Forest, []api.Change, api.Errno)) {
	if c.why != api.OK {
		return
	}
	g, l, why := step(c.forest)
	if why != api.OK {
		c.why = why
		return
	}
	c.forest, c.changes = g, append(c.changes, l...)
}

// add has a node more, and tells its handle. The change has data of its own: those that are there were handed in.
func (c *changer) add(n api.Node) int {
	h := c.next()
	n.Data = slices.Clone(n.Data)
	c.do(func(f api.Forest) (api.Forest, []api.Change, api.Errno) {
		made := api.Change{Kind: api.ChangeMake, Node: h, Made: n}
		g, why := forest.Apply(f, made)
		return g, []api.Change{made}, why
	})
	return h
}

// hang has a node as the last kid of another one.
func (c *changer) hang(h, parent int) {
	c.do(func(f api.Forest) (api.Forest, []api.Change, api.Errno) { return mutate.Append(f, h, parent) })
}

// told is the answer of what was done, and a handle.
func (c *changer) told(h int) (api.Forest, []api.Change, int, api.Errno) {
	if c.why != api.OK {
		return api.Forest{}, nil, 0, c.why
	}
	return c.forest, c.changes, h, api.OK
}

// maker makes the nodes of a document.
type maker struct {
	changer
	doc int
}

// begun is a maker of the nodes of a new document.
func begun(f api.Forest, html bool) *maker {
	m := &maker{changer: changer{forest: f}}
	m.doc = m.next()
	m.grow(api.Node{Kind: api.KindDocument, HTML: html})
	return m
}

// grow has a node of the document more, and tells its handle.
func (m *maker) grow(n api.Node) int {
	n.Doc = m.doc
	return m.add(n)
}

// growIn has a node more as the last kid of another one.
func (m *maker) growIn(parent int, n api.Node) int {
	h := m.grow(n)
	m.hang(h, parent)
	return h
}

// made is the answer of a node more that belongs to a document, if there is no reason against it.
func made(f api.Forest, doc int, n api.Node, more ...reason) (api.Forest, []api.Change, int, api.Errno) {
	n.Doc = doc
	against := slices.Concat([]reason{wrong(f), noDocument(f)}, more)
	if why := refused(n, against...); why != api.OK {
		return api.Forest{}, nil, 0, why
	}
	m := maker{changer{forest: f}, doc}
	return m.told(m.grow(n))
}

func elementOfHTML(local string) api.Node {
	return api.Node{Kind: api.KindElement, Name: api.Name{Space: api.SpaceHTML, Local: local}}
}
