package react

import (
	"slices"

	"canopy/api"
)

// right tells whether reactions are right.
func right(s api.Reacts) bool {
	if len(s.Stack) > api.MaxStack || slices.ContainsFunc(s.Stack, notRight) || notRight(s.Backup) {
		return false
	}
	places, count := map[int]int{}, 0
	for i, q := range s.Queues {
		_, twice := places[q.Element]
		places[q.Element] = i
		count += len(q.List)
		if twice || q.Element < 1 || len(q.List) == 0 || count > api.MaxReactions {
			return false
		}
		if slices.ContainsFunc(q.List, func(r api.Reaction) bool { return r.Element != q.Element || !isKind(r.Kind) }) {
			return false
		}
	}
	return true
}

func isKind(k api.ReactionKind) bool { return k >= api.ReactUpgrade && k <= api.ReactChanged }

// notRight tells whether a list has too many numbers, or one that is no element's.
func notRight(l []int) bool {
	return len(l) > api.MaxReactions || slices.ContainsFunc(l, func(h int) bool { return h < 1 })
}

// copied is reactions in new memory.
func copied(s api.Reacts) api.Reacts {
	c := api.Reacts{Backup: slices.Clone(s.Backup), Busy: s.Busy}
	for _, q := range s.Queues {
		c.Queues = append(c.Queues, api.ReactQueue{Element: q.Element, List: slices.Clone(q.List)})
	}
	for _, l := range s.Stack {
		c.Stack = append(c.Stack, slices.Clone(l))
	}
	return c
}

// line is right reactions that are worked on, in memory of their own: where each element's queue stands, and how many reactions there are in all.
type line struct {
	reacts api.Reacts
	places map[int]int
	count  int
}

func lineOf(s api.Reacts) *line {
	l := &line{reacts: copied(s), places: make(map[int]int, len(s.Queues))}
	for i, q := range s.Queues {
		l.places[q.Element] = i
		l.count += len(q.List)
	}
	return l
}

// wait has a reaction wait, and its element be seen to; false, if there is no room.
func (l *line) wait(r api.Reaction) bool {
	s := &l.reacts
	list, backup := &s.Backup, true
	if last := len(s.Stack) - 1; last >= 0 {
		list, backup = &s.Stack[last], false
	}
	if l.count == api.MaxReactions || len(*list) == api.MaxReactions {
		return false
	}
	at, is := l.places[r.Element]
	if !is {
		at = len(s.Queues)
		l.places[r.Element] = at
		s.Queues = append(s.Queues, api.ReactQueue{Element: r.Element})
	}
	s.Queues[at].List = append(s.Queues[at].List, r)
	*list = append(*list, r.Element)
	l.count++
	s.Busy = s.Busy || backup
	return true
}

// take has the first reaction of the first one of some elements that has a queue wait no more: which of the elements are left, and the reaction; false, if none has one. It leaves places and count as they were: who takes is done with the line.
func (l *line) take(elements []int) ([]int, api.Reaction, bool) {
	from := slices.IndexFunc(elements, func(h int) bool { _, is := l.places[h]; return is })
	if from < 0 {
		return nil, api.Reaction{}, false
	}
	at := l.places[elements[from]]
	q := &l.reacts.Queues[at]
	r := q.List[0]
	if len(q.List) > 1 {
		q.List = slices.Delete(q.List, 0, 1)
		return elements[from:], r, true
	}
	l.reacts.Queues = slices.Delete(l.reacts.Queues, at, at+1)
	return elements[from+1:], r, true
}
