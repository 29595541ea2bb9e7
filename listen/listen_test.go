package listen_test

import (
	"math"
	"slices"
	"strconv"
	"strings"
	"testing"

	"canopy/api"
	"canopy/listen"
)

func words(n int) string { return strings.Repeat("a", n) }

// of are listeners with these Ids, at the node 2, of the callbacks 1, 2, ..
func of(next int, ids ...int) api.Listeners {
	l := api.Listeners{Next: next}
	for i, id := range ids {
		l.List = append(l.List, api.Listener{Id: id, Node: 2, Type: "x", Callback: i + 1, Passive: api.PassiveOff})
	}
	return l
}

// most are as many as may be.
func most() api.Listeners {
	var ids []int
	for i := range api.MaxListeners {
		ids = append(ids, i+1)
	}
	return of(api.MaxListeners+1, ids...)
}

func with(l api.Listeners, at int, change func(*api.Listener)) api.Listeners {
	l.List = slices.Clone(l.List)
	change(&l.List[at])
	return l
}

func same(a, b api.Listeners) bool { return a.Next == b.Next && slices.Equal(a.List, b.List) }

func ids(l api.Listeners) string {
	var s []string
	for _, x := range l.List {
		s = append(s, strconv.Itoa(x.Id))
	}
	return strings.Join(s, " ")
}

func added(t *testing.T, l api.Listeners, x api.Listener, root bool, want int) api.Listeners {
	t.Helper()
	m, id, why := listen.Add(l, x, root, false)
	if why != api.OK || id != want {
		t.Fatalf("Add of %v: %d, error %d; want %d", x, id, why, want)
	}
	return m
}

// The chapter's example.
func TestExample(t *testing.T) {
	l := added(t, api.Listeners{}, api.Listener{Node: 2, Type: "click", Callback: 1}, false, 1)
	l = added(t, l, api.Listener{Node: 2, Type: "click", Callback: 1, Capture: true}, false, 2)
	l = added(t, l, api.Listener{Node: 2, Type: "click", Callback: 1}, false, 0)
	for capture, want := range map[bool]int{true: 2, false: 1} {
		if d, why := listen.Due(l, 2, "click", api.PhaseTarget, capture); why != api.OK || !slices.Equal(d, []int{want}) {
			t.Error("Due:", capture, d, why)
		}
	}
	w := added(t, l, api.Listener{Node: 2, Type: "wheel", Callback: 2}, true, 3)
	if w.List[2].Passive != api.PassiveOn {
		t.Error("Add of wheel at a root:", w.List[2])
	}
	if m, id, why := listen.Remove(l, 2, "click", 1, true); why != api.OK || id != 2 || ids(m) != "1" || m.Next != 3 {
		t.Error("Remove:", m, id, why)
	}
}

// 21.1: listeners that are right, at each edge.
func TestRight(t *testing.T) {
	for what, l := range map[string]api.Listeners{
		"none at all":            {},
		"an empty list":          {List: []api.Listener{}},
		"none, Next 1":           {Next: 1},
		"none, Next MaxIds":      {Next: api.MaxIds},
		"the first Id":           of(2, 1),
		"Ids with gaps":          of(10, 2, 5, 9),
		"the last Id":            of(api.MaxIds, api.MaxIds-1),
		"as many as may be":      most(),
		"a type without bytes":   with(of(2, 1), 0, func(x *api.Listener) { x.Type = "" }),
		"the longest type":       with(of(2, 1), 0, func(x *api.Listener) { x.Type = words(api.MaxName) }),
		"a callback below 0":     with(of(2, 1), 0, func(x *api.Listener) { x.Callback = -1 }),
		"passive":                with(of(2, 1), 0, func(x *api.Listener) { x.Passive = api.PassiveOn }),
		"the first node":         with(of(2, 1), 0, func(x *api.Listener) { x.Node = 1 }),
		"any node, any signal":   with(of(2, 1), 0, func(x *api.Listener) { x.Node, x.Signal = math.MaxInt, -1 }),
		"other nodes":            with(of(3, 1, 2), 1, func(x *api.Listener) { x.Node, x.Callback = 3, 1 }),
		"other types":            with(of(3, 1, 2), 1, func(x *api.Listener) { x.Type, x.Callback = "X", 1 }),
		"other ways to be there": with(of(3, 1, 2), 1, func(x *api.Listener) { x.Capture, x.Callback = true, 1 }),
	} {
		if why := listen.Check(l); why != api.OK {
			t.Errorf("%s: error %d", what, why)
		}
	}
}

// 21.1: what the types' listeners are by default.
func TestPassive(t *testing.T) {
	for kind, root := range map[string]api.Passive{
		"touchstart": api.PassiveOn, "touchmove": api.PassiveOn, "wheel": api.PassiveOn, "mousewheel": api.PassiveOn,
		"touchend": api.PassiveOff, "click": api.PassiveOff, "": api.PassiveOff, "Wheel": api.PassiveOff, "wheel ": api.PassiveOff,
		"touch": api.PassiveOff, "scroll": api.PassiveOff,
	} {
		if got := listen.Passive(kind, true); got != root {
			t.Errorf("%q at a root: %d", kind, got)
		}
		if got := listen.Passive(kind, false); got != api.PassiveOff {
			t.Errorf("%q elsewhere: %d", kind, got)
		}
		for said := range api.PassiveCount {
			for _, at := range []bool{false, true} {
				want := said
				if said == api.PassiveNone {
					want = listen.Passive(kind, at)
				}
				l, _, _ := listen.Add(api.Listeners{}, api.Listener{Node: 1, Type: kind, Callback: 1, Passive: said}, at, false)
				if len(l.List) != 1 || l.List[0].Passive != want {
					t.Errorf("%q, said %d, at a root %v: %v", kind, said, at, l)
				}
			}
		}
	}
}

// 21.1: Has looks at the node and the type, of any list.
func TestHas(t *testing.T) {
	l := with(of(3, 1, 2), 1, func(x *api.Listener) { x.Node, x.Type = 3, "y" })
	wrong := api.Listeners{List: []api.Listener{{Node: -1, Type: words(api.MaxName + 1)}, {Id: 1, Type: "y"}}}
	for _, x := range []struct {
		l    api.Listeners
		node int
		kind string
		want bool
	}{
		{l, 2, "x", true}, {l, 3, "y", true}, {l, 2, "y", false}, {l, 3, "x", false}, {l, 1, "x", false}, {l, 2, "X", false},
		{api.Listeners{}, 0, "", false}, {wrong, -1, words(api.MaxName + 1), true}, {wrong, 0, "y", true}, {wrong, 1, "y", false},
	} {
		if got := listen.Has(x.l, x.node, x.kind); got != x.want {
			t.Errorf("Has(%v, %d, %q): %v", x.l, x.node, x.kind, got)
		}
	}
}

// 21.2: what is added stands behind the others, with the next Id, and all that was said of it.
func TestAdd(t *testing.T) {
	x := api.Listener{Id: 77, Node: 5, Type: "y", Callback: -3, Capture: true, Once: true, Passive: api.PassiveOn, Signal: 4}
	for _, l := range []api.Listeners{{}, {Next: 1}, {Next: 9}, of(7, 1, 3), {Next: api.MaxIds - 1}, of(api.MaxIds-1, api.MaxIds-2)} {
		m, id, why := listen.Add(l, x, true, false)
		want := x
		want.Id = max(l.Next, 1)
		if why != api.OK || id != want.Id || m.Next != want.Id+1 || !slices.Equal(m.List, append(slices.Clone(l.List), want)) {
			t.Errorf("Add to %v: %v, %d, error %d", l, m, id, why)
		}
	}
	full := most()
	full.List = full.List[1:]
	if m, id, why := listen.Add(full, x, false, false); why != api.OK || id != full.Next || len(m.List) != api.MaxListeners {
		t.Error("the last one that may be:", len(m.List), id, why)
	}
	long := x
	long.Type = words(api.MaxName)
	if m, id, why := listen.Add(api.Listeners{}, long, false, false); why != api.OK || id != 1 || m.List[0].Type != long.Type {
		t.Error("the longest type:", id, why)
	}
}

// 21.2: what is aborted, has no callback, or is there already, adds nothing, where there is no room, too.
func TestAddNothing(t *testing.T) {
	there := api.Listener{Node: 2, Type: "x", Callback: 1}
	other := api.Listener{Node: 2, Type: "x", Callback: 1, Once: true, Passive: api.PassiveOn, Signal: 9, Id: 5}
	for what, l := range map[string]api.Listeners{
		"few": of(7, 1, 3), "none at all": {}, "as many as may be": most(), "no Id is left": of(api.MaxIds, 1),
	} {
		for _, x := range []struct {
			x       api.Listener
			aborted bool
		}{{there, true}, {api.Listener{Node: 1, Type: "y"}, false}, {api.Listener{Node: 1}, true}, {there, false}, {other, false}} {
			if len(l.List) == 0 && !x.aborted && x.x.Callback != 0 {
				continue
			}
			if m, id, why := listen.Add(l, x.x, true, x.aborted); why != api.OK || id != 0 || !same(m, l) {
				t.Errorf("%s: Add of %v, aborted %v: %v, %d, error %d", what, x.x, x.aborted, ids(m), id, why)
			}
		}
	}
}

// 21.3: what is taken away, and what is not there.
func TestTakenAway(t *testing.T) {
	l := of(9, 2, 4, 5, 7)
	l.List[1].Capture, l.List[1].Callback = true, 1
	l.List[0].Signal, l.List[2].Signal, l.List[3].Signal = 3, 3, -1
	for _, x := range []struct {
		node     int
		kind     string
		callback int
		capture  bool
		id       int
		left     string
	}{
		{2, "x", 1, false, 2, "4 5 7"}, {2, "x", 1, true, 4, "2 5 7"}, {2, "x", 4, false, 7, "2 4 5"},
		{2, "x", 4, true, 0, "2 4 5 7"}, {1, "x", 1, false, 0, "2 4 5 7"}, {2, "y", 1, false, 0, "2 4 5 7"},
		{2, "x", 2, false, 0, "2 4 5 7"}, {2, "x", 0, false, 0, "2 4 5 7"}, {-1, words(api.MaxName + 1), 0, true, 0, "2 4 5 7"},
	} {
		if m, id, why := listen.Remove(l, x.node, x.kind, x.callback, x.capture); why != api.OK || id != x.id || ids(m) != x.left || m.Next != 9 {
			t.Errorf("Remove of %v: %v, %d, error %d", x, m, id, why)
		}
	}
	for id, left := range map[int]string{2: "4 5 7", 4: "2 5 7", 7: "2 4 5", 0: "2 4 5 7", 3: "2 4 5 7", 9: "2 4 5 7", -2: "2 4 5 7"} {
		if m, is, why := listen.Expire(l, id); why != api.OK || is != (len(left) < 7) || ids(m) != left || m.Next != 9 {
			t.Errorf("Expire of %d: %v, %v, error %d", id, m, is, why)
		}
	}
	for signal, left := range map[int]string{0: "2 4 5 7", 1: "2 4 5 7", 3: "4 7", -1: "2 4 5", -3: "2 4 5 7"} {
		if m, why := listen.Abort(l, signal); why != api.OK || ids(m) != left || m.Next != 9 {
			t.Errorf("Abort of %d: %v, error %d", signal, m, why)
		}
	}
	none := api.Listeners{}
	m, id, why := listen.Remove(none, 1, "x", 1, false)
	n, is, wrong := listen.Expire(none, 1)
	o, no := listen.Abort(none, 1)
	if why != api.OK || id != 0 || wrong != api.OK || is || no != api.OK || !same(m, none) || !same(n, none) || !same(o, none) {
		t.Error("of none at all:", m, id, why, n, is, wrong, o, no)
	}
}

// 21.4: who is due, at each phase.
func TestDue(t *testing.T) {
	l := of(20, 1, 3, 4, 8, 9, 15)
	l.List[1].Capture, l.List[3].Capture = true, true
	l.List[4].Node, l.List[5].Type = 3, "y"
	for _, x := range []struct {
		node    int
		kind    string
		phase   api.Phase
		capture bool
		want    []int
	}{
		{2, "x", api.PhaseCapture, true, []int{3, 8}}, {2, "x", api.PhaseCapture, false, []int{3, 8}},
		{2, "x", api.PhaseBubble, true, []int{1, 4}}, {2, "x", api.PhaseBubble, false, []int{1, 4}},
		{2, "x", api.PhaseTarget, true, []int{3, 8}}, {2, "x", api.PhaseTarget, false, []int{1, 4}},
		{3, "x", api.PhaseTarget, false, []int{9}}, {3, "x", api.PhaseTarget, true, nil}, {3, "x", api.PhaseCapture, false, nil},
		{2, "y", api.PhaseBubble, false, []int{15}}, {1, "x", api.PhaseBubble, false, nil}, {2, "X", api.PhaseTarget, false, nil},
		{-1, words(api.MaxName + 1), api.PhaseTarget, false, nil},
	} {
		if got, why := listen.Due(l, x.node, x.kind, x.phase, x.capture); why != api.OK || !slices.Equal(got, x.want) {
			t.Errorf("Due of %v: %v, error %d", x, got, why)
		}
	}
}
