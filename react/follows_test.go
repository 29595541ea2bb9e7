package react_test

import (
	"slices"
	"testing"

	"canopy/api"
	"canopy/custom"
	"canopy/forest"
	"canopy/order"
	"canopy/react"
	"canopy/sample"
)

// model has reactions wait as the words say, by going over all for each.
type model struct {
	f    api.Forest
	s    api.Reacts
	reg  api.Registry
	seen bool
}

func (m *model) wait(r api.Reaction) {
	at := slices.IndexFunc(m.s.Queues, func(q api.ReactQueue) bool { return q.Element == r.Element })
	if at < 0 {
		m.s.Queues = append(m.s.Queues, api.ReactQueue{Element: r.Element})
		at = len(m.s.Queues) - 1
	}
	m.s.Queues[at].List = append(m.s.Queues[at].List, r)
	if n := len(m.s.Stack); n > 0 {
		m.s.Stack[n-1] = append(m.s.Stack[n-1], r.Element)
		return
	}
	m.s.Backup = append(m.s.Backup, r.Element)
	if !m.s.Busy {
		m.s.Busy, m.seen = true, true
	}
}

func (m *model) tell(r api.Reaction, failedToo bool) {
	e, _ := custom.Of(m.reg, r.Element)
	if e.State != api.StateCustom && !(failedToo && e.State == api.StateFailed) {
		return
	}
	d, _, _ := custom.Get(m.reg, e.Definition)
	r.Callback = [...]int{0, 0, d.Connected, d.Disconnected, d.Adopted, d.Changed}[r.Kind]
	if r.Callback == 0 || r.Kind == api.ReactChanged && !slices.Contains(d.Observed, r.Local) {
		return
	}
	m.wait(r)
}

func (m *model) try(h int) {
	e, _ := custom.Of(m.reg, h)
	n := m.f.Nodes[h-1].Name
	d, is, _ := custom.Look(m.reg, n.Space, n.Local, e.Is)
	if is && (e.State == api.StateUncustomized || e.State == api.StateUndefined) {
		m.wait(api.Reaction{Element: h, Kind: api.ReactUpgrade, Definition: d.Name})
	}
}

func (m *model) start(h int) {
	for _, a := range m.f.Nodes[h-1].Attrs {
		m.tell(api.Reaction{Element: h, Kind: api.ReactChanged, Local: a.Name.Local, Space: a.Name.Space, New: a.Value, Has: true}, true)
	}
	if is, _ := order.Connected(m.f, h); is {
		m.tell(api.Reaction{Element: h, Kind: api.ReactConnected}, true)
	}
}

// elements are those of a node, and below it.
func (m *model) elements(h int) []int {
	all, _ := order.Deep(m.f, h)
	return slices.DeleteFunc(all, func(h int) bool { return m.f.Nodes[h-1].Kind != api.KindElement })
}

func (m *model) do(c api.Change) {
	connected, _ := order.Connected(m.f, c.Parent)
	switch c.Kind {
	case api.ChangeInsert:
		for _, h := range m.elements(c.Node) {
			if e, _ := custom.Of(m.reg, h); connected && e.State == api.StateCustom {
				m.tell(api.Reaction{Element: h, Kind: api.ReactConnected}, false)
			} else if connected {
				m.try(h)
			}
		}
	case api.ChangeRemove:
		for _, h := range m.elements(c.Node) {
			if connected {
				m.tell(api.Reaction{Element: h, Kind: api.ReactDisconnected}, false)
			}
		}
	case api.ChangeAdopt:
		for _, h := range m.elements(c.Node) {
			m.tell(api.Reaction{Element: h, Kind: api.ReactAdopted, From: m.f.Nodes[h-1].Doc, To: c.Doc}, false)
		}
	case api.ChangeAttr:
		m.tell(api.Reaction{Element: c.Node, Kind: api.ReactChanged, Local: c.Name.Local, Space: c.Name.Space, Old: c.Old, New: c.Value, Had: c.Had, Has: c.Has}, false)
	}
	m.f, _ = forest.Apply(m.f, c)
}

// world is all that a call is handed, picked by dice.
type world struct {
	seed    int
	d       *sample.Dice
	f       api.Forest
	s       api.Reacts
	reg     api.Registry
	changes []api.Change
}

func each(seeds, nodes, changes int, see func(w world)) {
	for seed := range seeds {
		d := sample.NewDice(seed)
		f := sample.Customs(d, 2+d.Below(nodes))
		w := world{seed: seed, d: d, f: f, reg: sample.Registry(d, f), s: sample.Reacts(d, 12)}
		for range changes {
			c := sample.Change(d, f)
			if d.Below(3) == 0 {
				c = entering(d, f)
			}
			if c.Kind == api.ChangeMake && c.Made.Kind == api.KindElement {
				c.Made.Name = sample.CustomName(d)
			}
			if g, why := forest.Apply(f, c); why == api.OK {
				f, w.changes = g, append(w.changes, c)
			}
		}
		see(w)
	}
}

// entering is a change that puts a node into another one, most often a loose one into one that is connected: not all of them can be done.
func entering(d *sample.Dice, f api.Forest) api.Change {
	c := sample.Insertion(d, f)
	for range 20 {
		if is, _ := order.Connected(f, c.Parent); is && f.Nodes[c.Node-1].Parent == 0 {
			break
		}
		c = sample.Insertion(d, f)
	}
	return c
}

// count adds up what waits by kinds, beyond what waited.
func count(kinds map[api.ReactionKind]int, s, was api.Reacts) {
	for _, q := range s.Queues {
		for _, r := range q.List {
			kinds[r.Kind]++
		}
	}
	for _, q := range was.Queues {
		for _, r := range q.List {
			kinds[r.Kind]--
		}
	}
}

func (w world) model() model {
	return model{f: sample.Copy(w.f), s: sample.CopyReacts(w.s), reg: w.reg}
}

// wantModel sees that a call answers what the words say, which is right, and loses nothing.
func (w world) wantModel(t *testing.T, what string, m model, s api.Reacts, seen bool, why api.Errno) {
	t.Helper()
	if why != api.OK || !sample.SameReacts(s, m.s) || seen != m.seen {
		t.Fatalf("seed %d: %s: %s, %v, error %d; want %s, %v", w.seed, what, written(s), seen, why, written(m.s), m.seen)
	}
	fine(t, react.Check(s))
	wantKept(t, w.s, s)
	if seen != (s.Busy && !w.s.Busy) {
		t.Fatalf("seed %d: %s: Busy is %v, was %v, must be seen to: %v", w.seed, what, s.Busy, w.s.Busy, seen)
	}
}

// wantKept sees that what waited waits, in its order, ahead of what is more; and just one list of elements is longer, by as many.
func wantKept(t *testing.T, was, s api.Reacts) {
	t.Helper()
	more := 0
	for i, q := range s.Queues {
		var list []api.Reaction
		if i < len(was.Queues) {
			list = was.Queues[i].List
		}
		if i < len(was.Queues) && was.Queues[i].Element != q.Element || !slices.Equal(list, q.List[:len(list)]) {
			t.Fatalf("%s; was %s", written(s), written(was))
		}
		more += len(q.List) - len(list)
	}
	last, lastWas := s.Backup, was.Backup
	if n := len(s.Stack); n > 0 {
		last, lastWas = s.Stack[n-1], was.Stack[n-1]
	}
	if len(s.Queues) < len(was.Queues) || len(last) != len(lastWas)+more || !slices.Equal(last[:len(lastWas)], lastWas) {
		t.Fatalf("%s; was %s", written(s), written(was))
	}
}

// P26.4, P26.7, P26.11: what Fold answers is what the words say; in parts it is the same.
func TestFoldAsModel(t *testing.T) {
	kinds, seen := map[api.ReactionKind]int{}, 0
	each(1200, 24, 90, func(w world) {
		m := w.model()
		for _, c := range w.changes {
			m.do(c)
		}
		s, now, why := react.Fold(w.f, w.s, w.reg, w.changes)
		w.wantModel(t, "Fold", m, s, now, why)
		cut := w.d.Below(len(w.changes) + 1)
		half, first, why := react.Fold(w.f, w.s, w.reg, w.changes[:cut])
		fine(t, why)
		g, _, why := forest.All(w.f, w.changes[:cut])
		fine(t, why)
		if parts, then, why := react.Fold(g, half, w.reg, w.changes[cut:]); why != api.OK || !sample.SameReacts(parts, s) || (first || then) != now {
			t.Fatalf("seed %d: in parts: error %d", w.seed, why)
		}
		count(kinds, s, w.s)
		if now {
			seen++
		}
	})
	for k := api.ReactUpgrade; k < api.ReactCount; k++ {
		if kinds[k] < 100 {
			t.Error("too few of a kind:", kinds)
		}
	}
	if seen < 30 {
		t.Error("too few are seen to:", seen)
	}
}

// P26.3, P26.7, P26.11: what Tell, Try and Started answer is what the words say, whatever they are asked.
func TestCallsAsModel(t *testing.T) {
	kinds, started := map[api.ReactionKind]int{}, 0
	each(500, 24, 0, func(w world) {
		for range 12 {
			h := 1 + w.d.Below(len(w.f.Nodes)+4)
			r := sample.Reaction(w.d, h)
			r.Local = []string{"slot", "name", "class"}[w.d.Below(3)]
			m := w.model()
			if r.Kind != api.ReactUpgrade {
				m.tell(r, false)
				s, seen, why := react.Tell(w.s, w.reg, r)
				w.wantModel(t, "Tell", m, s, seen, why)
				count(kinds, s, w.s)
			}
			if h > len(w.f.Nodes) || w.f.Nodes[h-1].Kind != api.KindElement {
				continue
			}
			m = w.model()
			m.try(h)
			s, seen, why := react.Try(w.f, w.s, w.reg, h)
			w.wantModel(t, "Try", m, s, seen, why)
			count(kinds, s, w.s)
			m = w.model()
			m.start(h)
			s, seen, why = react.Started(w.f, w.s, w.reg, h)
			if e, _ := custom.Of(w.reg, h); e.State == api.StateFailed || e.State == api.StateCustom {
				w.wantModel(t, "Started", m, s, seen, why)
				started += len(m.s.Queues) - len(w.s.Queues)
			} else if why != api.ErrState {
				t.Fatalf("seed %d: Started(%v): error %d", w.seed, e, why)
			}
		}
	})
	for k := api.ReactUpgrade; k < api.ReactCount; k++ {
		if kinds[k] < 80 {
			t.Error("too few of a kind:", kinds)
		}
	}
	if started < 80 {
		t.Error("too few are started:", started)
	}
}

// of is the reactions of an element that wait.
func of(s api.Reacts, h int) []api.Reaction {
	for _, q := range s.Queues {
		if q.Element == h {
			return q.List
		}
	}
	return nil
}

// without is reactions that wait, without the queues of some elements, and without their lists.
func without(s api.Reacts, gone []int) []api.ReactQueue {
	return slices.DeleteFunc(slices.Clone(s.Queues), func(q api.ReactQueue) bool { return slices.Contains(gone, q.Element) })
}

// P26.5, P26.7, P26.8: what Pop answers is taken, of each element in the order in which it came to wait, till nothing waits for these elements; all else stays.
func TestAllOfThem(t *testing.T) {
	taken := 0
	each(500, 24, 40, func(w world) {
		w.s.Stack = append(w.s.Stack, nil)
		s, _, why := react.Fold(w.f, w.s, w.reg, w.changes)
		fine(t, why)
		s, l, why := react.Pop(s)
		fine(t, why)
		all, first, got := slices.Clone(l), s, map[int][]api.Reaction{}
		for {
			next, rest, r, is, why := react.Take(s, l)
			fine(t, why)
			fine(t, react.Check(next))
			if !is {
				if len(rest) != 0 || r != (api.Reaction{}) || !sample.SameReacts(next, s) {
					t.Fatalf("seed %d: of none: %v, %v", w.seed, rest, r)
				}
				break
			}
			got[r.Element] = append(got[r.Element], r)
			s, l = next, rest
			taken++
		}
		for _, h := range all {
			if !slices.Equal(got[h], of(first, h)) {
				t.Fatalf("seed %d: of %d: %v; want %v", w.seed, h, got[h], of(first, h))
			}
		}
		want := api.Reacts{Queues: without(first, all), Stack: first.Stack, Backup: first.Backup, Busy: first.Busy}
		if !sample.SameReacts(s, want) {
			t.Fatalf("seed %d: %s; want %s", w.seed, written(s), written(want))
		}
	})
	if taken < 500 {
		t.Error("too few:", taken)
	}
}

// P26.5, P26.7, P26.8: the same of the backup list, which is empty then, and not Busy.
func TestAllOfBackup(t *testing.T) {
	taken := 0
	each(500, 24, 40, func(w world) {
		w.s.Stack = nil
		s, _, why := react.Fold(w.f, w.s, w.reg, w.changes)
		fine(t, why)
		all, first, got := slices.Clone(s.Backup), s, map[int][]api.Reaction{}
		for {
			next, r, is, why := react.Backup(s)
			fine(t, why)
			fine(t, react.Check(next))
			if is && next.Busy != s.Busy {
				t.Fatalf("seed %d: Busy is %v while there is one", w.seed, next.Busy)
			}
			if s = next; !is {
				break
			}
			got[r.Element] = append(got[r.Element], r)
			taken++
		}
		for _, h := range all {
			if !slices.Equal(got[h], of(first, h)) {
				t.Fatalf("seed %d: of %d: %v; want %v", w.seed, h, got[h], of(first, h))
			}
		}
		if want := (api.Reacts{Queues: without(first, all)}); !sample.SameReacts(s, want) {
			t.Fatalf("seed %d: %s; want %s", w.seed, written(s), written(want))
		}
	})
	if taken < 500 {
		t.Error("too few:", taken)
	}
}

// P26.9: where no element is custom and no definition is there nothing waits that did not.
func TestJustThose(t *testing.T) {
	each(200, 24, 40, func(w world) {
		var reg api.Registry
		for _, e := range w.reg.Elements {
			if e.State == api.StateUncustomized || e.State == api.StateUndefined {
				reg.Elements = append(reg.Elements, e)
			}
		}
		for _, none := range []api.Registry{reg, {}} {
			if s, seen, why := react.Fold(w.f, w.s, none, w.changes); why != api.OK || seen || !sample.SameReacts(s, w.s) {
				t.Fatalf("seed %d: %s, %v, error %d", w.seed, written(s), seen, why)
			}
		}
	})
}

// P26.10: a custom element that comes into a document, and goes, is told both, in this order, if its definition wants it.
func TestInAndOut(t *testing.T) {
	for _, tree := range []string{"a ~(x)", "a ~(b(c(x)))", "a ~(b{x})", "a ~(b[c{d(x)}])"} {
		f := sample.Cast(tree)
		h := len(f.Nodes)
		top, at := h, h
		for f.Nodes[at-1].Kind != api.KindFragment {
			top, at = at, max(f.Nodes[at-1].Parent, f.Nodes[at-1].Host)
		}
		for _, d := range []api.Definition{{}, {Connected: 7}, {Disconnected: 8}, {Connected: 7, Disconnected: 8}} {
			d.Name, d.Local, d.Constructor = "x-a", "x-a", 1
			reg := api.Registry{Definitions: []api.Definition{d}, Elements: []api.Custom{{Node: h, State: api.StateCustom, Definition: "x-a"}}}
			s, _, why := react.Fold(f, api.Reacts{}, reg, []api.Change{removing(top, at, 0), inserting(top, 2, 0), removing(top, 2, 0)})
			fine(t, why)
			var want []api.Reaction
			if d.Connected != 0 {
				want = append(want, api.Reaction{Element: h, Kind: api.ReactConnected, Callback: 7})
			}
			if d.Disconnected != 0 {
				want = append(want, api.Reaction{Element: h, Kind: api.ReactDisconnected, Callback: 8})
			}
			if got := of(s, h); !slices.Equal(got, want) {
				t.Errorf("%s: %v; want %v", tree, got, want)
			}
		}
	}
}

// Push and Pop by dice: Pop takes back what Push did; what waits is no matter.
func TestPushThenPop(t *testing.T) {
	each(200, 6, 0, func(w world) {
		s, why := react.Push(w.s)
		fine(t, why)
		want := sample.CopyReacts(w.s)
		want.Stack = append(want.Stack, nil)
		if !sample.SameReacts(s, want) {
			t.Fatalf("seed %d: %s; want %s", w.seed, written(s), written(want))
		}
		if back, l, why := react.Pop(s); why != api.OK || len(l) != 0 || !sample.SameReacts(back, w.s) {
			t.Fatalf("seed %d: %s, %v, error %d", w.seed, written(back), l, why)
		}
	})
}
