package shadow_test

import (
	"slices"
	"testing"

	"canopy/api"
	"canopy/attrs"
	"canopy/forest"
	"canopy/order"
	"canopy/sample"
	"canopy/shadow"
)

// model says what the chapter's words say, as plainly as can be.
type model struct {
	t    *testing.T
	f    api.Forest
	hand []api.Assign
}

func (m model) fine(why api.Errno) {
	m.t.Helper()
	if why != api.OK {
		m.t.Fatal("error", why)
	}
}

func (m model) node(h int) api.Node { return m.f.Nodes[h-1] }

func (m model) isSlot(h int) bool {
	return m.node(h).Kind == api.KindElement && m.node(h).Name.Space == api.SpaceHTML && m.node(h).Name.Local == "slot"
}

func (m model) isSlottable(h int) bool {
	return slices.Contains([]api.NodeKind{api.KindElement, api.KindText, api.KindCData}, m.node(h).Kind)
}

func (m model) has(h int, local string) string {
	if m.node(h).Kind != api.KindElement {
		return ""
	}
	v, why := attrs.Reflect(m.f, h, local)
	m.fine(why)
	return v
}

func (m model) slotsWithin(h int) []int {
	l, why := order.All(m.f, h)
	m.fine(why)
	return slices.DeleteFunc(l, func(h int) bool { return !m.isSlot(h) })
}

func (m model) given(slot int) []int {
	for _, a := range m.hand {
		if a.Slot == slot {
			return a.Nodes
		}
	}
	return nil
}

func (m model) slotOf(h int) int {
	parent := m.node(h).Parent
	if !m.isSlottable(h) || parent == 0 || m.node(parent).Shadow == 0 {
		return 0
	}
	s := m.node(parent).Shadow
	for _, slot := range m.slotsWithin(s) {
		if m.node(s).Manual && slices.Contains(m.given(slot), h) || !m.node(s).Manual && m.has(slot, "name") == m.has(h, "slot") {
			return slot
		}
	}
	return 0
}

func (m model) assigned(slot int) []int {
	root, why := order.Root(m.f, slot)
	m.fine(why)
	n := m.node(root)
	if n.Kind != api.KindShadow {
		return nil
	}
	var l []int
	if n.Manual {
		for _, h := range m.given(slot) {
			if m.node(h).Parent == n.Host {
				l = append(l, h)
			}
		}
		return l
	}
	for _, kid := range m.node(n.Host).Kids {
		if m.slotOf(kid) == slot {
			l = append(l, kid)
		}
	}
	return l
}

// all is, for each slot that there is, what is assigned to it.
func (m model) all() map[int][]int {
	l := map[int][]int{}
	for h := 1; h <= len(m.f.Nodes); h++ {
		if m.isSlot(h) {
			l[h] = m.assigned(h)
		}
	}
	return l
}

// Words, P18.4, P18.7, P18.8: slots, and what is assigned to them, are as the words have them; both ways; no node is assigned to two slots.
func TestAsModel(t *testing.T) {
	byName, byHand, closed := 0, 0, 0
	for seed := range 200 {
		d := sample.NewDice(seed)
		m := model{t: t, f: sample.Slotted(d, 2+d.Below(30))}
		m.hand = sample.Hand(d, m.f)
		all, times := m.all(), map[int]int{}
		for h := 1; h <= len(m.f.Nodes); h++ {
			want := m.slotOf(h)
			wantSlot(t, m.f, m.hand, h, false, want)
			if want != 0 && !slices.Contains(all[want], h) {
				t.Fatalf("seed %d: %d has not %d assigned", seed, want, h)
			}
			if parent := m.node(h).Parent; want != 0 && m.node(m.node(parent).Shadow).Mode == api.ShadowClosed {
				closed++
				want = 0
			}
			wantSlot(t, m.f, m.hand, h, true, want)
			wantAllSlots(m, h, all)
			if !m.isSlot(h) {
				continue
			}
			got, why := shadow.Assigned(m.f, m.hand, h)
			m.fine(why)
			if !slices.Equal(got, all[h]) {
				t.Fatalf("seed %d: Assigned(%d): %v; want %v", seed, h, got, all[h])
			}
			for _, one := range got {
				wantSlot(t, m.f, m.hand, one, false, h)
				times[one]++
				if len(m.given(h)) > 0 {
					byHand++
				} else {
					byName++
				}
			}
		}
		for h, n := range times {
			if n > 1 {
				t.Fatalf("seed %d: %d is assigned to %d slots", seed, h, n)
			}
		}
	}
	if byName < 100 || byHand < 100 || closed < 50 {
		t.Error("too few of a kind:", byName, byHand, closed)
	}
}

// wantAllSlots has All tell each slot within a node, in tree order, and what is assigned to it.
func wantAllSlots(m model, h int, all map[int][]int) {
	m.t.Helper()
	var want []api.Assign
	for _, slot := range m.slotsWithin(h) {
		want = append(want, api.Assign{Slot: slot, Nodes: all[slot]})
	}
	if got, why := shadow.All(m.f, m.hand, h); why != api.OK || !sameHand(got, want) {
		m.t.Fatalf("All(%d): %v, error %d; want %v", h, got, why, want)
	}
}

// aChange is one of those by which slots may be told, or of another kind: not all of them can be done.
func aChange(d *sample.Dice, f api.Forest) api.Change {
	h, next := 1+d.Below(len(f.Nodes)), len(f.Nodes)+1
	n := f.Nodes[h-1]
	switch d.Below(16) {
	case 0:
		return api.Change{Kind: api.ChangeMake, Node: next, Made: sample.Player(d, f)}
	case 1:
		return api.Change{Kind: api.ChangeShadow, Node: h, Other: next, Made: api.Node{Kind: api.KindShadow, Mode: api.ShadowOpen, Manual: d.Below(2) == 0}}
	case 2:
		return api.Change{Kind: api.ChangeTree, Parent: h, Added: []int{h}}
	case 3:
		return api.Change{Kind: api.ChangeData, Node: h, Data: sample.Data(d)}
	case 4, 5, 6, 7, 8:
		return sample.Naming(d, f)
	case 9, 10:
		if n.Parent != 0 {
			return api.Change{Kind: api.ChangeRemove, Node: h, Parent: n.Parent, Index: slices.Index(f.Nodes[n.Parent-1].Kids, h)}
		}
	}
	return sample.Entrance(d, f)
}

// signalsOf is what the words say of a change: which slots are told, and the forest behind it.
func (m model) signalsOf(c api.Change) ([]int, api.Forest) {
	was := m.all()
	g, why := forest.Apply(m.f, c)
	m.fine(why)
	m.f = g
	is := m.all()
	var l []int
	for slot := 1; slot <= len(g.Nodes); slot++ {
		if before, there := was[slot]; there && !slices.Equal(before, is[slot]) {
			l = append(l, slot)
		}
	}
	if (c.Kind == api.ChangeInsert || c.Kind == api.ChangeRemove) && m.isSlot(c.Parent) && len(is[c.Parent]) == 0 {
		if root, _ := order.Root(g, c.Parent); m.node(root).Kind == api.KindShadow {
			l = append(l, c.Parent)
		}
	}
	return l, g
}

// P18.5, P18.10: slots are told as the words have it, change by change; each of which something else is assigned behind all is among them.
func TestSignalsAsModel(t *testing.T) {
	kinds, parents := map[api.ChangeKind]int{}, 0
	for seed := range 500 {
		d := sample.NewDice(seed)
		m := model{t: t, f: sample.Slotted(d, 8+d.Below(24))}
		m.hand = sample.Hand(d, m.f)
		first, was := m.f, m.all()
		var changes []api.Change
		var want []int
		for range 40 {
			c := aChange(d, m.f)
			if _, why := forest.Apply(m.f, c); why != api.OK {
				continue
			}
			slots, g := m.signalsOf(c)
			one, why := shadow.Signals(m.f, m.hand, []api.Change{c})
			m.fine(why)
			if !slices.Equal(one, unique(slots)) {
				t.Fatalf("seed %d: %+v: %v; want %v", seed, c, one, slots)
			}
			if len(slots) > 0 {
				kinds[c.Kind]++
				if slots[len(slots)-1] == c.Parent {
					parents++
				}
			}
			m.f, changes, want = g, append(changes, c), append(want, slots...)
		}
		got, why := shadow.Signals(first, m.hand, changes)
		m.fine(why)
		if !slices.Equal(got, unique(want)) {
			t.Fatalf("seed %d: %v; want %v", seed, got, unique(want))
		}
		for slot, nodes := range m.all() {
			if before, there := was[slot]; there && !slices.Equal(before, nodes) && !slices.Contains(got, slot) {
				t.Fatalf("seed %d: %d has %v assigned, not %v, and is not told", seed, slot, nodes, before)
			}
		}
	}
	if kinds[api.ChangeInsert] < 200 || kinds[api.ChangeRemove] < 200 || kinds[api.ChangeAttr] < 60 || parents < 50 || len(kinds) != 3 {
		t.Error("too few of a kind:", kinds, parents)
	}
}

// unique are some handles, each where it comes first.
func unique(l []int) []int {
	var once []int
	for _, h := range l {
		if !slices.Contains(once, h) {
			once = append(once, h)
		}
	}
	return once
}

// P18.3, P18.9: what is given by hand is right, has the slot with its nodes last, and no other one with any of them; given so once more it is the same.
func TestGiveAsWords(t *testing.T) {
	moved := 0
	for seed := range 800 {
		d := sample.NewDice(seed)
		f := sample.Slotted(d, 4+d.Below(24))
		hand := sample.Hand(d, f)
		slot := 1 + d.Below(len(f.Nodes))
		var nodes []int
		for range d.Below(8) {
			nodes = append(nodes, 1+d.Below(len(f.Nodes)))
		}
		got, why := shadow.Give(f, hand, slot, nodes)
		m := model{t: t, f: f}
		if wrong := !m.isSlot(slot) || slices.ContainsFunc(nodes, func(h int) bool { return !m.isSlottable(h) }); wrong {
			if why != api.ErrType || got != nil {
				t.Fatalf("seed %d: %v, error %d", seed, got, why)
			}
			continue
		}
		m.fine(why)
		var want []api.Assign
		for _, a := range hand {
			var left []int
			for _, h := range a.Nodes {
				if !slices.Contains(nodes, h) {
					left = append(left, h)
				} else if a.Slot != slot {
					moved++
				}
			}
			if a.Slot != slot {
				want = append(want, api.Assign{Slot: a.Slot, Nodes: left})
			}
		}
		want = append(want, api.Assign{Slot: slot, Nodes: unique(nodes)})
		if !sameHand(got, want) {
			t.Fatalf("seed %d: %v; want %v", seed, got, want)
		}
		m.fine(shadow.Check(f, got))
		again, why := shadow.Give(f, got, slot, nodes)
		m.fine(why)
		if !sameHand(again, got) {
			t.Fatalf("seed %d: once more %v; want %v", seed, again, got)
		}
	}
	if moved < 50 {
		t.Error("too few are moved:", moved)
	}
}
