package find

import (
	"slices"

	"canopy/api"
)

// Live is a collection that lives: what is asked, how often it was looked for, and what was found last, by which stamp.
type Live struct {
	query api.Query
	asked int
	has   bool
	stamp uint64
	items []int
}

// New is a collection that asks for something.
func New(q api.Query) *Live { return &Live{query: q} }

// Items are what is found, anew where the stamp is another one.
func (l *Live) Items(f api.Forest, stamp uint64) ([]int, api.Errno) {
	if l == nil {
		return nil, api.ErrNil
	}
	if why := l.renew(f, stamp); why != api.OK {
		return nil, why
	}
	return slices.Clone(l.items), api.OK
}

// Item is one of what is found, 0 if there are not so many.
func (l *Live) Item(f api.Forest, stamp uint64, i int) (int, api.Errno) {
	all, why := l.Items(f, stamp)
	if why != api.OK || i < 0 || i >= len(all) {
		return 0, why
	}
	return all[i], api.OK
}

// Named is the first one of what is found that has an id or, being an HTML element, a name; 0 if there is none.
func (l *Live) Named(f api.Forest, stamp uint64, key string) (int, api.Errno) {
	all, why := l.Items(f, stamp)
	if why != api.OK {
		return 0, why
	}
	byId, byName := having("id", key), having("name", key)
	return first(f, elements(f, all), func(n api.Node) bool {
		return byId(n) || n.Name.Space == api.SpaceHTML && byName(n)
	}), api.OK
}

// Asked is how often it was looked for.
func (l *Live) Asked() int {
	if l == nil {
		return 0
	}
	return l.asked
}

// renew looks for what is asked, if nothing was found by this stamp. Where it can't be looked for, what was found last stays.
func (l *Live) renew(f api.Forest, stamp uint64) api.Errno {
	if l.query.Kind == api.QueryNone || l.query.Kind >= api.QueryCount {
		return api.ErrType
	}
	if l.has && l.stamp == stamp {
		return api.OK
	}
	l.asked++
	items, why := looked(f, l.query)
	if why == api.OK {
		l.has, l.stamp, l.items = true, stamp, items
	}
	return why
}

// looked is what a query finds.
func looked(f api.Forest, q api.Query) ([]int, api.Errno) {
	switch q.Kind {
	case api.QueryTag:
		return Tag(f, q.Root, q.Local)
	case api.QueryTagNS:
		return TagNS(f, q.Root, q.Space, q.Local)
	case api.QueryClass:
		return Class(f, q.Root, q.Local)
	}
	return Kids(f, q.Root)
}
