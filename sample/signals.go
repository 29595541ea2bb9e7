package sample

import (
	"slices"

	"canopy/api"
)

// Signals are n that are right: some depend on up to three others, some are aborted; what depends on a signal stands in its list in any order.
func Signals(d *Dice, n int) []api.Signal {
	l := make([]api.Signal, n)
	for i := range l {
		l[i].Dependent = d.Below(2) == 0
		if d.Below(6) == 0 {
			l[i].Aborted, l[i].Reason = true, reason(d)
		}
	}
	for i := range l {
		if l[i].Dependent {
			join(d, l, i)
		}
	}
	return l
}

// reason is one of the few that are told, and never none.
func reason(d *Dice) int { return []int{-1, 1, 7, int(api.ErrAbort)}[d.Below(4)] }

// join has a signal depend on some that don't, and aborted where one of these is.
func join(d *Dice, l []api.Signal, at int) {
	s := &l[at]
	for range d.Below(4) {
		i := d.Below(len(l))
		if l[i].Dependent || slices.Contains(s.Sources, i+1) {
			continue
		}
		s.Sources = append(s.Sources, i+1)
		l[i].Dependents = slices.Insert(l[i].Dependents, d.Below(len(l[i].Dependents)+1), at+1)
		if l[i].Aborted && !s.Aborted {
			s.Aborted, s.Reason = true, l[i].Reason
		}
	}
}

// CopySignals has lists of its own in every signal.
func CopySignals(l []api.Signal) []api.Signal {
	var m []api.Signal
	for _, s := range l {
		s.Sources, s.Dependents = append([]int(nil), s.Sources...), append([]int(nil), s.Dependents...)
		m = append(m, s)
	}
	return m
}

// RoomySignals is a copy that has room behind each list.
func RoomySignals(l []api.Signal) []api.Signal {
	m := CopySignals(l)
	for i, s := range m {
		m[i].Sources, m[i].Dependents = roomy(s.Sources), roomy(s.Dependents)
	}
	return roomy(m)
}

// SameSignals goes by what lists hold, so that nil and empty ones are alike.
func SameSignals(l, m []api.Signal) bool { return slices.EqualFunc(l, m, sameSignal) }

func sameSignal(a, b api.Signal) bool {
	return a.Aborted == b.Aborted && a.Reason == b.Reason && a.Dependent == b.Dependent &&
		slices.Equal(a.Sources, b.Sources) && slices.Equal(a.Dependents, b.Dependents)
}

// SpoilSignals writes over all lists of signals, and over the room behind them.
func SpoilSignals(l []api.Signal) {
	for _, s := range l[:cap(l)] {
		SpoilSignal(s)
	}
	Fill(l, api.Signal{Reason: spoiltHandle})
}

// SpoilSignal writes over the lists of one.
func SpoilSignal(s api.Signal) {
	Fill(s.Sources, spoiltHandle)
	Fill(s.Dependents, spoiltHandle)
}

// SpoiltSignals tells whether a list of signals, or the room behind it, was written over.
func SpoiltSignals(l []api.Signal) bool {
	return slices.ContainsFunc(l[:cap(l)], func(s api.Signal) bool {
		return s.Reason == spoiltHandle || has(s.Sources, spoiltHandle) || has(s.Dependents, spoiltHandle)
	})
}
