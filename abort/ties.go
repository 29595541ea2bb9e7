package abort

import (
	"slices"

	"canopy/api"
)

// knot is where signals come to depend on others: the list, which is the answer's own, and the new one.
type knot struct {
	list []api.Signal
	h    int
}

// tie has the new signal depend on a source, once: it is the last that any source has, so that one look tells whether it does already.
func (k knot) tie(source int) {
	s, own := &k.list[source-1], &k.list[k.h-1]
	if n := len(s.Dependents); n > 0 && s.Dependents[n-1] == k.h {
		return
	}
	s.Dependents, own.Sources = append(s.Dependents, k.h), append(own.Sources, source)
}

// lead puts all sources, in order; in the place of one that is Dependent those that it depends on.
func lead(l []api.Signal, sources []int, put func(int)) {
	for _, h := range sources {
		if !l[h-1].Dependent {
			put(h)
			continue
		}
		for _, source := range l[h-1].Sources {
			put(source)
		}
	}
}

// right asks both sides of each tie: who is said to be a source by whom must be what Dependents say.
func right(l []api.Signal) bool {
	said, is := saidBy(l)
	if !is {
		return false
	}
	for i, s := range l {
		if s.Aborted != (s.Reason != 0) || s.Dependent && len(s.Dependents) > 0 || !s.Dependent && len(s.Sources) > 0 {
			return false
		}
		if len(s.Dependents) != len(said[i]) || !slices.Equal(rising(s.Dependents), said[i]) {
			return false
		}
	}
	return true
}

// saidBy has of each signal those that say they depend on it, by rising handles; false, if one says so twice, or of none, or is not aborted where it must be.
func saidBy(l []api.Signal) ([][]int, bool) {
	said := make([][]int, len(l))
	for i, s := range l {
		if !s.Dependent {
			continue
		}
		for _, h := range s.Sources {
			if !there(l, h) || l[h-1].Aborted && !s.Aborted {
				return nil, false
			}
			by := said[h-1]
			if len(by) > 0 && by[len(by)-1] == i+1 {
				return nil, false
			}
			said[h-1] = append(by, i+1)
		}
	}
	return said, true
}

// rising hands back a list that rises already, as those do that Any made.
func rising(l []int) []int {
	if slices.IsSorted(l) {
		return l
	}
	m := slices.Clone(l)
	slices.Sort(m)
	return m
}

func copied(l []api.Signal) []api.Signal {
	m := slices.Clone(l)
	for i, s := range m {
		m[i].Sources, m[i].Dependents = slices.Clone(s.Sources), slices.Clone(s.Dependents)
	}
	return m
}

// grown has one more, and its handle.
func grown(l []api.Signal, s api.Signal) ([]api.Signal, int) {
	m := append(copied(l), s)
	return m, len(m)
}
