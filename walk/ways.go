package walk

import (
	"iter"
	"slices"

	"canopy/api"
)

// tour is a way through a right forest. A walker may stand outside its root, and come to it on the way: so each way asks for the root just where the chapter says it.
type tour struct {
	f         api.Forest
	root      int
	filter    api.Filter
	kid, next func(int) int // the kid on the way, and the next, 0 for none
}

func ways() map[api.Way]func(tour, int) int {
	return map[api.Way]func(tour, int) int{
		api.WayParent: tour.up,
		api.WayFirst:  tour.down,
		api.WayLast:   tour.down,
		api.WayAhead:  tour.along,
		api.WayBehind: tour.along,
		api.WayBack:   tour.back,
		api.WayOn:     tour.on,
	}
}

// stepOf leads from a node to the one that is reached from it, 0 for none.
func stepOf(f api.Forest, w api.Walker, way api.Way) (func(int) int, api.Errno) {
	if why := wrong(f, w.Filter, w.Root, w.Current); why != api.OK {
		return nil, why
	}
	do, is := ways()[way]
	if !is {
		return nil, api.ErrType
	}
	t := tourOf(f, w, way)
	return func(current int) int { return do(t, current) }, api.OK
}

// reached yields what a step reaches from a node, from that one, and so on, till it is none.
func reached(current int, step func(int) int) iter.Seq[int] {
	return func(yield func(int) bool) {
		for h := step(current); h != 0 && yield(h); h = step(h) {
		}
	}
}

func tourOf(f api.Forest, w api.Walker, way api.Way) tour {
	kid, by := firstOf, 1
	if way == api.WayLast || way == api.WayAhead || way == api.WayBack {
		kid, by = lastOf, -1
	}
	return tour{
		f: f, root: w.Root, filter: w.Filter,
		kid:  func(h int) int { return kid(f.Nodes[h-1].Kids) },
		next: func(h int) int { return sibling(f, h, by) },
	}
}

func firstOf(kids []int) int {
	if len(kids) == 0 {
		return 0
	}
	return kids[0]
}

func lastOf(kids []int) int {
	if len(kids) == 0 {
		return 0
	}
	return kids[len(kids)-1]
}

// sibling is the one that stands by so many places behind a node, 0 for none.
func sibling(f api.Forest, h, by int) int {
	parent := f.Nodes[h-1].Parent
	if parent == 0 {
		return 0
	}
	kids := f.Nodes[parent-1].Kids
	at := slices.Index(kids, h) + by
	if at < 0 || at >= len(kids) {
		return 0
	}
	return kids[at]
}

func (t tour) parent(h int) int { return t.f.Nodes[h-1].Parent }

func (t tour) says(h int) api.Verdict { return verdict(t.filter, t.f.Nodes[h-1]) }

func (t tour) accepts(h int) bool { return t.says(h) == api.VerdictAccept }

// into is the kid on the way of a node that is not rejected, 0 for none.
func (t tour) into(h int) int {
	if t.says(h) == api.VerdictReject {
		return 0
	}
	return t.kid(h)
}

// past is the next of a node, or of the first one above it that has one: none, if the root or the end is come to ahead of it.
func (t tour) past(h, end int) int {
	for at := h; at != 0; {
		if next := t.next(at); next != 0 {
			return next
		}
		at = t.parent(at)
		if at == t.root || at == end {
			return 0
		}
	}
	return 0
}

func (t tour) up(current int) int {
	for at := current; at != t.root && t.parent(at) != 0; {
		at = t.parent(at)
		if t.accepts(at) {
			return at
		}
	}
	return 0
}

func (t tour) down(current int) int {
	at := t.kid(current)
	for at != 0 && !t.accepts(at) {
		if kid := t.into(at); kid != 0 {
			at = kid
		} else {
			at = t.past(at, current)
		}
	}
	return at
}

func (t tour) along(current int) int {
	if current == t.root {
		return 0
	}
	for at := current; ; {
		for next := t.next(at); next != 0; next = t.aside(at) {
			at = next
			if t.accepts(at) {
				return at
			}
		}
		at = t.parent(at)
		if at == 0 || at == t.root || t.accepts(at) {
			return 0
		}
	}
}

// aside is where to look behind a node that is not accepted: in it, if that can be, else beside it.
func (t tour) aside(h int) int {
	if kid := t.into(h); kid != 0 {
		return kid
	}
	return t.next(h)
}

func (t tour) back(current int) int {
	for at := current; at != t.root; {
		for next := t.next(at); next != 0; next = t.next(at) {
			at = t.bottom(next)
			if t.accepts(at) {
				return at
			}
		}
		if at == t.root || t.parent(at) == 0 {
			return 0
		}
		at = t.parent(at)
		if t.accepts(at) {
			return at
		}
	}
	return 0
}

// bottom is the last one within a node, as far down as nothing is rejected.
func (t tour) bottom(h int) int {
	at := h
	for kid := t.into(at); kid != 0; kid = t.into(at) {
		at = kid
	}
	return at
}

// on has its first step by itself: Current counts as accepted, whatever the filter says of it.
func (t tour) on(current int) int {
	at := t.kid(current)
	if at == 0 {
		at = t.over(current)
	}
	for at != 0 && !t.accepts(at) {
		if kid := t.into(at); kid != 0 {
			at = kid
		} else {
			at = t.over(at)
		}
	}
	return at
}

// over is the first node behind a node and all within it.
func (t tour) over(h int) int {
	if h == t.root {
		return 0
	}
	return t.past(h, 0)
}
