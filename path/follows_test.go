package path_test

import (
	"slices"
	"testing"

	"canopy/api"
	"canopy/order"
	"canopy/path"
	"canopy/sample"
	"canopy/shadow"
)

// model says what the chapter's words say, as plainly as can be, by the calls of the layers below.
type model struct {
	t    *testing.T
	f    api.Forest
	hand []api.Assign
}

func (m model) fine(why api.Errno) {
	m.t.Helper()
	if why != api.OK {
		m.t.Fatal("error", why)
	}
}

func (m model) node(h int) api.Node { return m.f.Nodes[h-1] }

func (m model) root(h int) int {
	root, why := order.Root(m.f, h)
	m.fine(why)
	return root
}

func (m model) inShadow(h int) bool { return m.node(m.root(h)).Kind == api.KindShadow }

func (m model) holds(a, b int) bool {
	is, why := order.Holds(m.f, a, b)
	m.fine(why)
	return is
}

func (m model) slot(h int) int {
	slot, why := shadow.Slot(m.f, m.hand, h, false)
	m.fine(why)
	return slot
}

func (m model) retargeted(a, b int) int {
	if a == 0 || !m.inShadow(a) || m.holds(m.root(a), b) {
		return a
	}
	return m.retargeted(m.node(m.root(a)).Host, b)
}

func (m model) next(h int, e event) int {
	switch m.node(h).Kind {
	case api.KindDocument:
		return 0
	case api.KindShadow:
		if !e.composed && h == m.root(e.target) {
			return 0
		}
		return m.node(h).Host
	}
	if slot := m.slot(h); slot != 0 {
		return slot
	}
	return m.node(h).Parent
}

func (m model) step(h, target, related int, slot bool) api.Step {
	closed := m.node(h).Kind == api.KindShadow && m.node(h).Mode == api.ShadowClosed
	return api.Step{Item: h, InShadow: m.inShadow(h), Target: target, Related: related, Closed: closed, Slot: slot}
}

func (m model) path(e event) []api.Step {
	seen := m.retargeted(e.related, e.target)
	if e.target == seen && e.related != e.target {
		return nil
	}
	l := []api.Step{m.step(e.target, e.target, seen, false)}
	target, ahead := e.target, e.target
	for {
		n := m.next(ahead, e)
		if n == 0 {
			return l
		}
		slot := m.slot(ahead) == n && m.inShadow(n) && m.node(m.root(n)).Mode == api.ShadowClosed
		related := m.retargeted(e.related, n)
		if m.holds(m.root(target), n) {
			l = append(l, m.step(n, 0, related, slot))
		} else if n == related {
			return l
		} else {
			target = n
			l = append(l, m.step(n, n, related, slot))
		}
		ahead = n
	}
}

func (m model) clears(l []api.Step) bool {
	for i := len(l) - 1; i >= 0; i-- {
		if l[i].Target != 0 {
			return m.inShadow(l[i].Target) || l[i].Related != 0 && m.inShadow(l[i].Related)
		}
	}
	return false
}

// composed is what the words say of the step at, one after another.
func composed(l []api.Step, at int) []int {
	hidden := 0
	for i := len(l) - 1; i >= at; i-- {
		if l[i].Closed {
			hidden++
		}
		if l[i].Slot && i != at {
			hidden--
		}
	}
	seen := []int{l[at].Item}
	current, least := hidden, hidden
	for i := at - 1; i >= 0; i-- {
		if l[i].Closed {
			current++
		}
		if current <= least {
			seen = append([]int{l[i].Item}, seen...)
		}
		if l[i].Slot {
			current--
			if current < least {
				least = current
			}
		}
	}
	current, least = hidden, hidden
	for i := at + 1; i < len(l); i++ {
		if l[i].Slot {
			current++
		}
		if current <= least {
			seen = append(seen, l[i].Item)
		}
		if l[i].Closed {
			current--
			if current < least {
				least = current
			}
		}
	}
	return seen
}

// eachPath tries the paths of some events in forests that are picked by dice.
func eachPath(t *testing.T, seeds int, try func(m model, e event, l []api.Step)) {
	t.Helper()
	for seed := range seeds {
		d := sample.NewDice(seed)
		m := model{t: t, f: sample.Packed(d, 2+d.Below(30))}
		m.hand = sample.Hand(d, m.f)
		for target := 1; target <= len(m.f.Nodes); target++ {
			for range 6 {
				e := event{target, d.Below(len(m.f.Nodes) + 1), d.Below(2) == 0}
				l, why := path.Path(m.f, m.hand, e.target, e.related, e.composed)
				m.fine(why)
				try(m, e, l)
			}
		}
		if t.Failed() {
			t.Fatal("seed", seed)
		}
	}
}

// P20.1 to P20.3: paths, whether they clear, and what each step may see, are as the words have them.
func TestAsModel(t *testing.T) {
	kinds := map[string]int{}
	eachPath(t, 200, func(m model, e event, l []api.Step) {
		want := m.path(e)
		if !slices.Equal(l, want) {
			t.Errorf("Path%v: %s; want %s", e, written(l), written(want))
		}
		clears, why := path.Clears(m.f, l)
		m.fine(why)
		if clears != m.clears(l) {
			t.Errorf("Clears of %s: %v", written(l), clears)
		}
		for at := range l {
			got, why := path.Composed(l, at)
			m.fine(why)
			if !slices.Equal(got, composed(l, at)) {
				t.Errorf("Composed of %s at %d: %v; want %v", written(l), at, got, composed(l, at))
			}
			if len(got) < len(l) {
				kinds["hidden"]++
			}
			if l[at].Slot {
				kinds["slot"]++
			}
			if at > 0 && l[at].Target != 0 {
				kinds["target"]++
			}
			if l[at].Related != l[0].Related {
				kinds["related"]++
			}
		}
		if len(l) == 0 {
			kinds["empty"]++
		} else if last := l[len(l)-1].Item; e.composed && m.next(last, e) != 0 {
			kinds["ends"]++
		}
		if clears {
			kinds["clears"]++
		}
	})
	for _, kind := range []string{"hidden", "slot", "target", "related", "empty", "ends", "clears"} {
		if kinds[kind] < 50 {
			t.Error("too few of a kind:", kind, kinds[kind])
		}
	}
}

// P20.3: steps that no path has.
func TestComposedAsModel(t *testing.T) {
	d := sample.NewDice(20)
	for range 3000 {
		l := make([]api.Step, 1+d.Below(12))
		for i := range l {
			l[i] = api.Step{Item: d.Below(40) - 3, Closed: d.Below(3) == 0, Slot: d.Below(3) == 0}
		}
		for at := range l {
			if got, why := path.Composed(l, at); why != api.OK || !slices.Equal(got, composed(l, at)) {
				t.Fatalf("Composed of %s at %d: %v, error %d; want %v", written(l), at, got, why, composed(l, at))
			}
		}
	}
}

// P20.5: no node is twice in a path; the first one is the target; each one's step behind it is its slot, its parent or its host.
func TestEachOnce(t *testing.T) {
	long := 0
	eachPath(t, 120, func(m model, e event, l []api.Step) {
		all := items(l)
		slices.Sort(all)
		if len(slices.Compact(all)) != len(l) {
			t.Errorf("%v: one is there twice: %s", e, written(l))
		}
		if len(l) > 0 && (l[0].Item != e.target || l[0].Target != e.target) {
			t.Errorf("%v: %s", e, written(l))
		}
		for i := 1; i < len(l); i++ {
			h, next := l[i-1].Item, l[i].Item
			if next != m.slot(h) && next != m.node(h).Parent && next != m.node(h).Host {
				t.Errorf("%v: %d is behind %d", e, next, h)
			}
		}
		if len(l) > 5 {
			long++
		}
	})
	if long < 500 {
		t.Error("too few are long:", long)
	}
}

// P20.6: nobody is told of a node in a shadow tree that it is not in: neither of a target nor of a related one.
func TestWhatIsSeen(t *testing.T) {
	told := 0
	eachPath(t, 120, func(m model, e event, l []api.Step) {
		target := 0
		for _, s := range l {
			if s.Target != 0 {
				target = s.Target
			}
			if root := m.root(target); !m.holds(root, s.Item) {
				t.Errorf("%v: %d is told of the target %d", e, s.Item, target)
			}
			if s.Related == 0 {
				continue
			}
			if root := m.root(s.Related); m.inShadow(root) && !m.holds(root, s.Item) {
				t.Errorf("%v: %d is told of %d", e, s.Item, s.Related)
			}
			told++
		}
	})
	if told < 1000 {
		t.Error("too few are told:", told)
	}
}

// P20.7: of an event that is not composed no host of the target's root is in the path by that root; of one that is, it is.
func TestNotComposed(t *testing.T) {
	ends, goesOn := 0, 0
	eachPath(t, 120, func(m model, e event, l []api.Step) {
		root := m.root(e.target)
		at := slices.IndexFunc(l, func(s api.Step) bool { return s.Item == root })
		switch {
		case !m.inShadow(root) || at < 0:
		case at == len(l)-1:
			ends++
		case !e.composed:
			t.Errorf("%v: %s", e, written(l))
		default:
			goesOn++
		}
		if !e.composed && m.inShadow(root) && slices.Contains(items(l), m.node(root).Host) {
			t.Errorf("%v: the host is in it: %s", e, written(l))
		}
	})
	if ends < 200 || goesOn < 200 {
		t.Error("too few of a kind:", ends, goesOn)
	}
}

// P20.8: where no step is Closed or a Slot composedPath answers all Items; it always has at's own, and keeps the order.
func TestOpen(t *testing.T) {
	open := 0
	eachPath(t, 120, func(m model, e event, l []api.Step) {
		hides := slices.ContainsFunc(l, func(s api.Step) bool { return s.Closed || s.Slot })
		all := items(l)
		for at := range l {
			got, why := path.Composed(l, at)
			m.fine(why)
			if !hides && !slices.Equal(got, all) {
				t.Errorf("Composed of %s at %d: %v", written(l), at, got)
			}
			if !slices.Contains(got, l[at].Item) {
				t.Errorf("Composed of %s at %d: %v", written(l), at, got)
			}
			from := 0
			for _, h := range got {
				behind := slices.Index(all[from:], h)
				if behind < 0 {
					t.Fatalf("Composed of %s at %d: %v", written(l), at, got)
				}
				from += behind + 1
			}
			if !hides {
				open++
			}
		}
	})
	if open < 500 {
		t.Error("too few:", open)
	}
}
