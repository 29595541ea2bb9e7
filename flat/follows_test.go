package flat_test

import (
	"slices"
	"testing"

	"canopy/api"
	"canopy/flat"
	"canopy/order"
	"canopy/sample"
	"canopy/shadow"
)

// model says what the chapter's words say, as plainly as can be, by the calls of the layers below.
type model struct {
	t    *testing.T
	f    api.Forest
	hand []api.Assign
}

func (m model) fine(why api.Errno) {
	m.t.Helper()
	if why != api.OK {
		m.t.Fatal("error", why)
	}
}

func (m model) node(h int) api.Node { return m.f.Nodes[h-1] }

func (m model) isSlot(h int) bool {
	return m.node(h).Kind == api.KindElement && m.node(h).Name.Space == api.SpaceHTML && m.node(h).Name.Local == "slot"
}

func (m model) root(h int) int {
	root, why := order.Root(m.f, h)
	m.fine(why)
	return root
}

func (m model) counts(h int) bool {
	return m.isSlot(h) && m.node(m.root(h)).Kind == api.KindShadow
}

func (m model) assigned(slot int) []int {
	if !m.isSlot(slot) {
		return nil
	}
	l, why := shadow.Assigned(m.f, m.hand, slot)
	m.fine(why)
	return l
}

func (m model) slottableKids(h int) []int {
	return slices.DeleteFunc(slices.Clone(m.node(h).Kids), func(h int) bool {
		return !slices.Contains([]api.NodeKind{api.KindElement, api.KindText, api.KindCData}, m.node(h).Kind)
	})
}

func (m model) comesTo(slot int) []int {
	if !m.counts(slot) {
		return nil
	}
	from := m.assigned(slot)
	if len(from) == 0 {
		from = m.slottableKids(slot)
	}
	var l []int
	for _, h := range from {
		if m.counts(h) {
			l = append(l, m.comesTo(h)...)
		} else {
			l = append(l, h)
		}
	}
	return l
}

func (m model) kids(h int) []int {
	n := m.node(h)
	if n.Kind == api.KindElement && n.Shadow != 0 {
		return m.node(n.Shadow).Kids
	}
	if m.counts(h) && len(m.assigned(h)) > 0 {
		return m.assigned(h)
	}
	return n.Kids
}

func (m model) parent(h int) int {
	n := m.node(h)
	if n.Kind == api.KindShadow || n.Parent == 0 {
		return 0
	}
	parent := m.node(n.Parent)
	switch {
	case parent.Kind == api.KindShadow:
		return parent.Host
	case parent.Shadow != 0:
		slot, why := shadow.Slot(m.f, m.hand, h, false)
		m.fine(why)
		return slot
	case m.counts(n.Parent) && len(m.assigned(n.Parent)) > 0:
		return 0
	}
	return n.Parent
}

func (m model) all(h int) []int {
	l := []int{h}
	for _, kid := range m.kids(h) {
		l = append(l, m.all(kid)...)
	}
	return l
}

func (m model) seen(a, b int) int {
	root := m.root(a)
	holds, why := order.Holds(m.f, root, b)
	m.fine(why)
	if m.node(root).Kind != api.KindShadow || holds {
		return a
	}
	return m.seen(m.node(root).Host, b)
}

// calm has no slot with a shadow root: such elements are no slots any more.
func calm(f api.Forest) api.Forest {
	f = sample.Copy(f)
	for i := range f.Nodes {
		if f.Nodes[i].Shadow != 0 {
			f.Nodes[i].Name.Local = "div"
		}
	}
	return f
}

// grown are forests with slots, and what these were given by hand, picked by dice: half of them calm.
func grown(t *testing.T, try func(seed int, m model, quiet bool)) {
	t.Helper()
	for seed := range 900 {
		d := sample.NewDice(seed)
		m := model{t: t, f: sample.Packed(d, 2+d.Below(36))}
		quiet := seed%2 == 0
		if quiet {
			m.f = calm(m.f)
		}
		m.hand = sample.Hand(d, m.f)
		try(seed, m, quiet)
	}
}

// 19.1, 19.2: slots, flat kids, flat parents and All are as the words have them.
func TestAsModel(t *testing.T) {
	deeper, fallback, lost, jumps := 0, 0, 0, 0
	grown(t, func(seed int, m model, _ bool) {
		for h := 1; h <= len(m.f.Nodes); h++ {
			wantList(t, "Kids", m.kids(h))(flat.Kids(m.f, m.hand, h))
			wantAll(t, m.f, m.hand, h, m.all(h)...)
			parent := m.parent(h)
			if got, why := flat.Parent(m.f, m.hand, h); why != api.OK || got != parent {
				t.Errorf("Parent(%d): %d, error %d; want %d", h, got, why, parent)
			}
			if parent == 0 && m.node(h).Parent != 0 {
				lost++
			} else if parent != m.node(h).Parent {
				jumps++
			}
			if m.isSlot(h) {
				comesTo, assigned := m.comesTo(h), m.assigned(h)
				wantSlot(t, m.f, m.hand, h, comesTo, assigned)
				if len(assigned) == 0 && len(comesTo) > 0 {
					fallback++
				} else if !slices.Equal(assigned, comesTo) {
					deeper++
				}
			} else if l, why := flat.Flatten(m.f, m.hand, h); why != api.ErrType || l != nil {
				t.Errorf("Flatten(%d): %v, error %d", h, l, why)
			}
		}
		if t.Failed() {
			t.Fatal("seed", seed)
		}
	})
	if deeper < 50 || fallback < 50 || lost < 500 || jumps < 500 {
		t.Error("too few of a kind:", deeper, fallback, lost, jumps)
	}
}

// 19.3: all nodes are seen from all nodes as the words have it.
func TestRetargetAsModel(t *testing.T) {
	others, twice := 0, 0
	for seed := range 60 {
		m := model{t: t, f: sample.Packed(sample.NewDice(seed), 4+seed%24)}
		for a := 1; a <= len(m.f.Nodes); a++ {
			for b := 1; b <= len(m.f.Nodes); b++ {
				want := m.seen(a, b)
				wantRetarget(t, m.f, a, b, want)
				if want != a {
					others++
				}
				if want != a && m.node(m.root(a)).Host != want {
					twice++
				}
			}
		}
		if t.Failed() {
			t.Fatal("seed", seed)
		}
	}
	if others < 1000 || twice < 500 {
		t.Error("too few of a kind:", others, twice)
	}
}

// 19.5: where no slot has a shadow root itself, flat kids and flat parents agree, but of shadow roots, and All has no node twice.
func TestOneTree(t *testing.T) {
	pairs := 0
	grown(t, func(seed int, m model, quiet bool) {
		if !quiet {
			return
		}
		for h := 1; h <= len(m.f.Nodes); h++ {
			kids, why := flat.Kids(m.f, m.hand, h)
			m.fine(why)
			for _, kid := range kids {
				parent, why := flat.Parent(m.f, m.hand, kid)
				m.fine(why)
				if parent != h && m.node(h).Kind != api.KindShadow {
					t.Fatalf("seed %d: %d is a flat kid of %d, and %d its flat parent", seed, kid, h, parent)
				}
				pairs++
			}
			parent, why := flat.Parent(m.f, m.hand, h)
			m.fine(why)
			if parent != 0 {
				kids, why := flat.Kids(m.f, m.hand, parent)
				m.fine(why)
				if !slices.Contains(kids, h) {
					t.Fatalf("seed %d: %d is the flat parent of %d, and has the flat kids %v", seed, parent, h, kids)
				}
			}
			all, why := flat.All(m.f, m.hand, h)
			m.fine(why)
			wantOnce(t, seed, all)
		}
	})
	if pairs < 500 {
		t.Error("too few:", pairs)
	}
}

// wantOnce has no node be in a list twice.
func wantOnce(t *testing.T, seed int, l []int) {
	t.Helper()
	l = slices.Clone(l)
	slices.Sort(l)
	if len(slices.Compact(l)) != len(l) {
		t.Fatalf("seed %d: one is there twice", seed)
	}
}

// 19.6: what a slot comes to has no slot that counts in it, and none twice.
func TestSlotsComeTo(t *testing.T) {
	some := 0
	grown(t, func(seed int, m model, _ bool) {
		for h := 1; h <= len(m.f.Nodes); h++ {
			if !m.isSlot(h) {
				continue
			}
			l, why := flat.Flatten(m.f, m.hand, h)
			m.fine(why)
			wantOnce(t, seed, l)
			if slices.ContainsFunc(l, m.counts) {
				t.Fatalf("seed %d: %d comes to %v", seed, h, l)
			}
			some += len(l)
		}
	})
	if some < 500 {
		t.Error("too few:", some)
	}
}

// 19.7: what Retarget answers is seen as itself, and so is a node of b's own tree.
func TestSeen(t *testing.T) {
	for seed := range 60 {
		m := model{t: t, f: sample.Packed(sample.NewDice(seed), 4+seed%24)}
		for a := 1; a <= len(m.f.Nodes); a++ {
			for b := 1; b <= len(m.f.Nodes); b++ {
				h, why := flat.Retarget(m.f, a, b)
				m.fine(why)
				if is, why := flat.Seen(m.f, h, b); why != api.OK || !is {
					t.Fatalf("seed %d: %d is not seen from %d as itself, error %d", seed, h, b, why)
				}
				if is, why := flat.Seen(m.f, a, b); why != api.OK || !is && m.root(a) == m.root(b) {
					t.Fatalf("seed %d: %d is not seen from %d, error %d", seed, a, b, why)
				}
			}
		}
	}
}

// 19.8: in a forest without shadow roots the flat tree is the tree.
func TestWithoutShadow(t *testing.T) {
	for seed := range 60 {
		m := model{t: t, f: plain(sample.Packed(sample.NewDice(seed), 4+seed%24))}
		m.hand = sample.Hand(sample.NewDice(seed), m.f)
		for h := 1; h <= len(m.f.Nodes); h++ {
			wantList(t, "Kids", m.node(h).Kids)(flat.Kids(m.f, m.hand, h))
			if parent, why := flat.Parent(m.f, m.hand, h); why != api.OK || parent != m.node(h).Parent {
				t.Errorf("Parent(%d): %d, error %d", h, parent, why)
			}
			all, why := order.All(m.f, h)
			m.fine(why)
			wantAll(t, m.f, m.hand, h, all...)
			if m.isSlot(h) {
				wantSlot(t, m.f, m.hand, h, nil, nil)
			}
		}
	}
}

// plain has fragments in the place of shadow roots.
func plain(f api.Forest) api.Forest {
	f = sample.Copy(f)
	for i, n := range f.Nodes {
		f.Nodes[i].Shadow = 0
		if n.Kind == api.KindShadow {
			f.Nodes[i] = api.Node{Kind: api.KindFragment, Kids: n.Kids, Doc: n.Doc}
		}
	}
	return f
}
