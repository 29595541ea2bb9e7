package listen

import "canopy/api"

// Check tells whether listeners are right.
func Check(l api.Listeners) api.Errno {
	if len(l.List) == 0 && l.Next == 0 {
		return api.OK
	}
	if l.Next < 1 || l.Next > api.MaxIds || len(l.List) > api.MaxListeners {
		return api.ErrRange
	}
	seen, last := make(map[mark]int, len(l.List)), 0
	for _, x := range l.List {
		if x.Id <= last || x.Id >= l.Next || !fair(x) || seen[markOf(x)] != 0 {
			return api.ErrRange
		}
		seen[markOf(x)], last = x.Id, x.Id
	}
	return api.OK
}

// fair tells whether a listener is right by itself, whatever its Id.
func fair(x api.Listener) bool {
	said := x.Passive == api.PassiveOn || x.Passive == api.PassiveOff
	return said && x.Callback != 0 && x.Node >= 1 && len(x.Type) <= api.MaxName
}
