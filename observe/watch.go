package observe

import (
	"slices"

	"canopy/api"
)

func isOne(w api.Watch, observer int) bool { return observer >= 1 && observer <= len(w.Queues) }

// right tells whether a watch is right where there are so many nodes.
func right(w api.Watch, nodes int) bool {
	if len(w.Queues) > api.MaxObservers || slices.ContainsFunc(w.Queues, tooMany) {
		return false
	}
	if len(w.Regs) == 0 && w.Next == 0 {
		return true
	}
	if len(w.Regs) > api.MaxRegs || w.Next < 1 || w.Next > api.MaxRegIds {
		return false
	}
	asked, last := make(map[place]int, len(w.Regs)), 0
	for _, r := range w.Regs {
		if r.Id <= last || r.Id >= w.Next || r.Source < 0 || r.Source >= r.Id {
			return false
		}
		if !isOne(w, r.Observer) || r.Node < 1 || r.Node > nodes || !areSettled(r.Options) {
			return false
		}
		at := place{r.Observer, r.Node}
		if r.Source == 0 && asked[at] != 0 {
			return false
		}
		if r.Source == 0 {
			asked[at] = r.Id
		}
		last = r.Id
	}
	return true
}

func tooMany(records []api.Record) bool { return len(records) > api.MaxRecords }

// place is what an observer may ask for but once.
type place struct{ observer, node int }

func all(api.Registration) bool { return true }

// kept is a watch, in new memory, with the registrations that stay; no Id is given anew, since Next stays.
func kept(w api.Watch, stays func(api.Registration) bool) api.Watch {
	left := api.Watch{Next: w.Next}
	for _, r := range w.Regs {
		if stays(r) {
			r.Options = copyOfOptions(r.Options)
			left.Regs = append(left.Regs, r)
		}
	}
	for _, queue := range w.Queues {
		var records []api.Record
		for _, r := range queue {
			records = append(records, copyOfRecord(r))
		}
		left.Queues = append(left.Queues, records)
	}
	return left
}

// register has a registration more, with the next Id; false, if there can be none.
func register(w *api.Watch, r api.Registration) bool {
	if len(w.Regs) == api.MaxRegs || w.Next == api.MaxRegIds {
		return false
	}
	r.Id = max(w.Next, 1)
	w.Regs, w.Next = append(w.Regs, r), r.Id+1
	return true
}

func copyOfOptions(o api.Options) api.Options {
	o.Filter = slices.Clone(o.Filter)
	return o
}

func copyOfRecord(r api.Record) api.Record {
	r.OldData, r.Added, r.Removed = slices.Clone(r.OldData), slices.Clone(r.Added), slices.Clone(r.Removed)
	return r
}
