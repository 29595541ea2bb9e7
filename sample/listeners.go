package sample

import "canopy/api"

// Listener is one that can be added, of few nodes, types, callbacks and signals, so that many are alike.
func Listener(d *Dice) api.Listener {
	return api.Listener{
		Node:     1 + d.Below(4),
		Type:     Type(d),
		Callback: 1 + d.Below(3),
		Capture:  d.Below(2) == 0,
		Once:     d.Below(4) == 0,
		Passive:  api.Passive(d.Below(int(api.PassiveCount))),
		Signal:   d.Below(3),
	}
}

// Type is the type of an event.
func Type(d *Dice) string { return []string{"x", "y", "wheel"}[d.Below(3)] }

// Listeners are right, n at most; between their Ids there are gaps, as where others were taken away.
func Listeners(d *Dice, n int) api.Listeners {
	l := api.Listeners{Next: 1 + d.Below(3)}
	for range n {
		x := Listener(d)
		if x.Passive == api.PassiveNone {
			x.Passive = api.PassiveOff
		}
		if hasLike(l, x) {
			continue
		}
		x.Id = l.Next
		l.List, l.Next = append(l.List, x), l.Next+1+d.Below(3)
	}
	return l
}

func hasLike(l api.Listeners, x api.Listener) bool {
	for _, y := range l.List {
		if y.Node == x.Node && y.Type == x.Type && y.Callback == x.Callback && y.Capture == x.Capture {
			return true
		}
	}
	return false
}

// RoomyListeners is a copy that has room behind it.
func RoomyListeners(l api.Listeners) api.Listeners {
	return api.Listeners{List: roomy(append([]api.Listener{}, l.List...)), Next: l.Next}
}
