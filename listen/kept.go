package listen

import "canopy/api"

// which tells of each listener whether it is meant.
type which func(api.Listener) bool

func all(api.Listener) bool { return true }

func but(w which) which { return func(x api.Listener) bool { return !w(x) } }

func of(node int, kind string) which {
	return func(x api.Listener) bool { return x.Node == node && x.Type == kind }
}

func like(m mark) which { return func(x api.Listener) bool { return markOf(x) == m } }

// mark is what listeners that are alike have in common.
type mark struct {
	node     int
	kind     string
	callback int
	capture  bool
}

func markOf(x api.Listener) mark { return mark{x.Node, x.Type, x.Callback, x.Capture} }

// kept has new memory, even if all stay; no Id is given anew, since Next stays.
func kept(l api.Listeners, stays which) api.Listeners {
	left := api.Listeners{Next: l.Next}
	for _, x := range l.List {
		if stays(x) {
			left.List = append(left.List, x)
		}
	}
	return left
}
