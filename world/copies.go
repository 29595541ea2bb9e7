package world

import (
	"slices"

	"canopy/api"
)

// copier is how a thing gets new memory.
type copier[T any] func(T) T

// all has each thing of a list in new memory.
func (c copier[T]) all(l []T) []T {
	m := slices.Clone(l)
	for i, v := range m {
		m[i] = c(v)
	}
	return m
}

func copiedPrograms(l [][]api.Command) [][]api.Command {
	return copier[[]api.Command](copier[api.Command](copiedCommand).all).all(l)
}

func copiedCommand(c api.Command) api.Command {
	c.Data, c.List, c.Names = slices.Clone(c.Data), slices.Clone(c.List), slices.Clone(c.Names)
	return c
}

func copiedRun(r api.Run) api.Run {
	r.Path, r.Due = slices.Clone(r.Path), slices.Clone(r.Due)
	return r
}

func copiedThings(t things) things {
	t.State, t.reacts, t.slots = copiedState(t.State), copiedReacts(t.reacts), slices.Clone(t.slots)
	return t
}

func copiedState(s api.State) api.State {
	s.Forest.Nodes = copier[api.Node](copiedNode).all(s.Forest.Nodes)
	s.Hand = copier[api.Assign](copiedAssign).all(s.Hand)
	s.Ranges = slices.Clone(s.Ranges)
	s.Iterators = copier[api.Iterator](copiedIterator).all(s.Iterators)
	s.Listeners.List = slices.Clone(s.Listeners.List)
	s.Signals = copier[api.Signal](copiedSignal).all(s.Signals)
	s.Registry.Definitions = copier[api.Definition](copiedDefinition).all(s.Registry.Definitions)
	s.Registry.Elements = slices.Clone(s.Registry.Elements)
	s.Watch.Regs = copier[api.Registration](copiedRegistration).all(s.Watch.Regs)
	s.Watch.Queues = copier[[]api.Record](copier[api.Record](copiedRecord).all).all(s.Watch.Queues)
	s.Programs = slices.Clone(s.Programs)
	return s
}

func copiedNode(n api.Node) api.Node {
	n.Data, n.Attrs, n.Kids = slices.Clone(n.Data), slices.Clone(n.Attrs), slices.Clone(n.Kids)
	return n
}

func copiedAssign(a api.Assign) api.Assign {
	a.Nodes = slices.Clone(a.Nodes)
	return a
}

func copiedIterator(it api.Iterator) api.Iterator {
	it.Filter.Rules = slices.Clone(it.Filter.Rules)
	return it
}

func copiedSignal(s api.Signal) api.Signal {
	s.Sources, s.Dependents = slices.Clone(s.Sources), slices.Clone(s.Dependents)
	return s
}

func copiedDefinition(d api.Definition) api.Definition {
	d.Observed = slices.Clone(d.Observed)
	return d
}

func copiedRegistration(r api.Registration) api.Registration {
	r.Options.Filter = slices.Clone(r.Options.Filter)
	return r
}

func copiedRecord(r api.Record) api.Record {
	r.OldData, r.Added, r.Removed = slices.Clone(r.OldData), slices.Clone(r.Added), slices.Clone(r.Removed)
	return r
}

func copiedReacts(s api.Reacts) api.Reacts {
	s.Queues = copier[api.ReactQueue](copiedQueue).all(s.Queues)
	s.Stack = copier[[]int](slices.Clone).all(s.Stack)
	s.Backup = slices.Clone(s.Backup)
	return s
}

func copiedQueue(q api.ReactQueue) api.ReactQueue {
	q.List = slices.Clone(q.List)
	return q
}
