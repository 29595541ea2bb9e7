package sample

import (
	"slices"

	"canopy/api"
	"canopy/forest"
)

// SameState goes by what lists hold, so that nil and empty ones are alike.
func SameState(a, b api.State) bool {
	plain := slices.Equal(a.Ranges, b.Ranges) && slices.Equal(a.Programs, b.Programs) && a.Fuel == b.Fuel && a.Exhausted == b.Exhausted
	lists := slices.EqualFunc(a.Hand, b.Hand, sameAssign) && slices.EqualFunc(a.Iterators, b.Iterators, sameIterator) &&
		slices.Equal(a.Listeners.List, b.Listeners.List) && a.Listeners.Next == b.Listeners.Next
	return plain && lists && forest.Same(a.Forest, b.Forest) && SameSignals(a.Signals, b.Signals) &&
		SameRegistry(a.Registry, b.Registry) && SameWatch(a.Watch, b.Watch)
}

func sameAssign(a, b api.Assign) bool { return a.Slot == b.Slot && slices.Equal(a.Nodes, b.Nodes) }

func sameIterator(a, b api.Iterator) bool {
	return a.Root == b.Root && a.Ref == b.Ref && a.Before == b.Before && a.Filter.Show == b.Filter.Show && slices.Equal(a.Filter.Rules, b.Filter.Rules)
}

// CopyState has lists of its own in every part.
func CopyState(s api.State) api.State {
	s.Forest, s.Signals, s.Registry, s.Watch = Copy(s.Forest), CopySignals(s.Signals), CopyRegistry(s.Registry), CopyWatch(s.Watch)
	s.Hand, s.Iterators = slices.Clone(s.Hand), slices.Clone(s.Iterators)
	for i, a := range s.Hand {
		s.Hand[i].Nodes = slices.Clone(a.Nodes)
	}
	for i, it := range s.Iterators {
		s.Iterators[i].Filter.Rules = slices.Clone(it.Filter.Rules)
	}
	s.Ranges, s.Programs, s.Listeners.List = slices.Clone(s.Ranges), slices.Clone(s.Programs), slices.Clone(s.Listeners.List)
	return s
}

// SpoilState writes over all lists of a state, and over the room behind them.
func SpoilState(s api.State) {
	for _, spoil := range spoilers(s) {
		spoil()
	}
}

// spoilers write over the lists of a state, one by one; those that have others in them come last.
func spoilers(s api.State) []func() {
	l := []func(){
		func() { Fill(s.Ranges, api.Range{Start: api.Bound{Node: spoiltHandle}}) }, func() { Fill(s.Programs, spoiltHandle) },
		func() { Fill(s.Listeners.List, api.Listener{Node: spoiltHandle}) },
	}
	for _, n := range s.Forest.Nodes {
		l = append(l, func() { Fill(n.Data, spoiltUnit) }, func() { Fill(n.Attrs, api.Attr{Value: spoiltValue}) }, func() { Fill(n.Kids, spoiltHandle) })
	}
	for _, x := range s.Signals {
		l = append(l, func() { Fill(x.Sources, spoiltHandle) }, func() { Fill(x.Dependents, spoiltHandle) })
	}
	for _, d := range s.Registry.Definitions {
		l = append(l, func() { Fill(d.Observed, spoiltValue) })
	}
	for _, queue := range s.Watch.Queues {
		for _, r := range queue {
			l = append(l, func() { Fill(r.OldData, spoiltUnit) }, func() { Fill(r.Added, spoiltHandle) }, func() { Fill(r.Removed, spoiltHandle) })
		}
		l = append(l, func() { Fill(queue, api.Record{Old: spoiltValue}) })
	}
	for _, a := range s.Hand {
		l = append(l, func() { Fill(a.Nodes, spoiltHandle) })
	}
	return append(l,
		func() { Spoil(s.Forest) }, func() { SpoilSignals(s.Signals) }, func() { SpoilRegistry(s.Registry) }, func() { SpoilWatch(s.Watch) },
		func() { Fill(s.Hand, api.Assign{Slot: spoiltHandle}) }, func() { Fill(s.Iterators, api.Iterator{Root: spoiltHandle}) })
}

// Partly tells whether a list of a state is part of another one of it: in a copy, where none is, the same lists are written over.
func Partly(s api.State) bool {
	t := CopyState(s)
	apart := spoilers(t)
	for i, spoil := range spoilers(s) {
		spoil()
		apart[i]()
		if !SameState(s, t) {
			return true
		}
	}
	return false
}
