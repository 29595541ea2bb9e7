package world

import (
	"canopy/api"
	"canopy/bounds"
	"canopy/extract"
	"canopy/iterate"
	"canopy/observe"
)

// The bits of what an observer wants to be told of.
const (
	kidsBit = 1 << iota
	subtreeBit
	attrsBit
	dataBit
	oldAttrBit
	oldDataBit
)

func (w *World) beginRange(c api.Command) (answer, api.Errno) {
	r := api.Range{Start: api.Bound{Node: c.A, Offset: c.N}, End: api.Bound{Node: c.B, Offset: c.M}}
	_, why := bounds.Common(w.has.Forest, r)
	if why == api.OK && len(w.has.Ranges) == api.MaxLive {
		why = api.ErrMany
	}
	if why != api.OK {
		return answer{}, why
	}
	w.has.Ranges = append(w.has.Ranges, r)
	return number(len(w.has.Ranges), api.OK)
}

func (w *World) isRange(n int) bool { return n >= 1 && n <= len(w.has.Ranges) }

func (w *World) extract(c api.Command) (answer, api.Errno) {
	if !w.isRange(c.A) {
		return answer{}, api.ErrRange
	}
	g, fragment, left, l, why := extract.Extract(w.has.Forest, w.has.Ranges[c.A-1])
	a, why := w.made(g, l, fragment, why)
	return w.leave(c.A, left, a, why)
}

func (w *World) erase(c api.Command) (answer, api.Errno) {
	if !w.isRange(c.A) {
		return answer{}, api.ErrRange
	}
	g, left, l, why := extract.Delete(w.has.Forest, w.has.Ranges[c.A-1])
	a, why := w.done(g, l, why)
	return w.leave(c.A, left, a, why)
}

// leave has a range be the one that is left, behind changes: the list of ranges is new memory then.
func (w *World) leave(n int, left api.Range, a answer, why api.Errno) (answer, api.Errno) {
	if why == api.OK {
		w.has.Ranges[n-1] = left
	}
	return a, why
}

func (w *World) iterate(c api.Command) (answer, api.Errno) {
	if !offset(c.N) {
		return answer{}, api.ErrRange
	}
	it, why := iterate.New(w.has.Forest, c.A, api.Filter{Show: uint32(c.N)})
	if why == api.OK && len(w.has.Iterators) == api.MaxLive {
		why = api.ErrMany
	}
	if why != api.OK {
		return answer{}, why
	}
	w.has.Iterators = append(w.has.Iterators, it)
	return number(len(w.has.Iterators), api.OK)
}

func (w *World) step(c api.Command) (answer, api.Errno) {
	if c.A < 1 || c.A > len(w.has.Iterators) {
		return answer{}, api.ErrRange
	}
	goes := iterate.Prev
	if c.Yes {
		goes = iterate.Next
	}
	it, h, why := goes(w.has.Forest, w.has.Iterators[c.A-1])
	if why == api.OK {
		w.has.Iterators[c.A-1] = it
	}
	return number(h, why)
}

func (w *World) observer(c api.Command) (answer, api.Errno) {
	if !w.isProgram(c.N) {
		return answer{}, api.ErrRange
	}
	more, n, why := observe.New(w.has.Watch)
	if why == api.OK {
		w.has.Watch, w.has.Programs = more, append(w.has.Programs, c.N)
	}
	return number(n, why)
}

func (w *World) observe(c api.Command) (answer, api.Errno) {
	o := api.Options{
		Kids: bit(c.N, kidsBit), Subtree: bit(c.N, subtreeBit), Attrs: said(c.N, attrsBit), Data: said(c.N, dataBit),
		OldAttr: said(c.N, oldAttrBit), OldData: said(c.N, oldDataBit),
	}
	return w.watched(observe.Observe(w.has.Forest, w.has.Watch, c.A, c.B, o))
}

// said is what a bit says of an option.
func said(n, of int) api.Said {
	if bit(n, of) {
		return api.SaidYes
	}
	return api.SaidNone
}

func (w *World) disconnect(c api.Command) (answer, api.Errno) {
	return w.watched(observe.Disconnect(w.has.Watch, c.A))
}

// watched has the watch be what a call made of it.
func (w *World) watched(turned api.Watch, why api.Errno) (answer, api.Errno) {
	w.has.Watch = turned
	return answer{}, why
}

func (w *World) take(c api.Command) (answer, api.Errno) {
	left, records, why := observe.Take(w.has.Watch, c.A)
	w.has.Watch = left
	return number(len(records), why)
}
