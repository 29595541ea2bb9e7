package observe_test

import (
	"slices"
	"testing"

	"canopy/api"
	"canopy/forest"
	"canopy/mutate"
	"canopy/observe"
	"canopy/order"
	"canopy/sample"
)

func fine(t *testing.T, why api.Errno) {
	t.Helper()
	if why != api.OK {
		t.Fatal("error", why)
	}
}

// model is a watch that follows changes as the words say, by going over all of it for each.
type model struct {
	f api.Forest
	w api.Watch
}

// record is what a change queues, with the old one, if there is one.
func (m *model) record(c api.Change) (api.Record, bool) {
	switch c.Kind {
	case api.ChangeAttr:
		r := api.Record{Kind: api.RecordAttr, Target: c.Node, Local: c.Name.Local, Space: c.Name.Space}
		if c.Had {
			r.Has, r.Old = true, c.Old
		}
		return r, true
	case api.ChangeData:
		return api.Record{Kind: api.RecordData, Target: c.Node, Has: true, OldData: m.f.Nodes[c.Node-1].Data}, true
	case api.ChangeTree:
		return api.Record{Kind: api.RecordTree, Target: c.Parent, Added: c.Added, Removed: c.Removed, Prev: c.Prev, Next: c.Next}, c.Parent != 0
	}
	return api.Record{}, false
}

func (m *model) interested(x api.Registration, r api.Record) bool {
	above, _ := order.Ancestors(m.f, r.Target)
	if x.Node != r.Target && !(x.Options.Subtree && slices.Contains(above, x.Node)) {
		return false
	}
	switch r.Kind {
	case api.RecordAttr:
		if x.Options.Filters && (r.Space != "" || !slices.Contains(x.Options.Filter, r.Local)) {
			return false
		}
		return x.Options.Attrs == api.SaidYes
	case api.RecordData:
		return x.Options.Data == api.SaidYes
	}
	return x.Options.Kids
}

func wants(o api.Options, k api.RecordKind) bool {
	return k == api.RecordAttr && o.OldAttr == api.SaidYes || k == api.RecordData && o.OldData == api.SaidYes
}

// do follows a change.
func (m *model) do(c api.Change) {
	if r, is := m.record(c); is {
		for i := range m.w.Queues {
			mine := slices.DeleteFunc(slices.Clone(m.w.Regs), func(x api.Registration) bool { return x.Observer != i+1 || !m.interested(x, r) })
			told := r
			if !slices.ContainsFunc(mine, func(x api.Registration) bool { return wants(x.Options, r.Kind) }) {
				told.Has, told.Old, told.OldData = false, "", nil
			}
			if len(mine) > 0 {
				m.w.Queues[i] = append(m.w.Queues[i], told)
			}
		}
	}
	if c.Kind == api.ChangeRemove {
		above, _ := order.Ancestors(m.f, c.Parent)
		were := slices.Clone(m.w.Regs)
		for _, h := range slices.Concat([]int{c.Parent}, above) {
			for _, x := range were {
				if x.Node == h && x.Options.Subtree {
					more := api.Registration{Id: m.w.Next, Observer: x.Observer, Node: c.Node, Options: x.Options, Source: x.Id}
					m.w.Regs, m.w.Next = append(m.w.Regs, more), m.w.Next+1
				}
			}
		}
	}
	m.f, _ = forest.Apply(m.f, c)
}

// each hands on forests with watches in them and changes, which are picked by dice.
func each(seeds, nodes, changes int, see func(seed int, d *sample.Dice, f api.Forest, w api.Watch, l []api.Change)) {
	for seed := range seeds {
		d := sample.NewDice(seed)
		f := sample.Thick(d, 2+d.Below(nodes))
		w := sample.Watch(d, f, 1+d.Below(4), d.Below(12))
		see(seed, d, f, w, sample.Changes(d, f, changes))
	}
}

// P24.4, P24.10: what Fold answers is what the words say, and right; in parts it is the same.
func TestAsModel(t *testing.T) {
	queued, trailed := map[api.RecordKind]int{}, 0
	each(600, 14, 30, func(seed int, d *sample.Dice, f api.Forest, w api.Watch, l []api.Change) {
		m := model{sample.Copy(f), sample.CopyWatch(w)}
		for _, c := range l {
			m.do(c)
		}
		v, why := observe.Fold(f, w, l)
		if why != api.OK || !sample.SameWatch(v, m.w) {
			t.Fatalf("seed %d: error %d\n%v\n%v", seed, why, v, m.w)
		}
		if why := observe.Check(m.f, v); why != api.OK {
			t.Fatalf("seed %d: %v is not right", seed, v)
		}
		cut := d.Below(len(l) + 1)
		half, why := observe.Fold(f, w, l[:cut])
		fine(t, why)
		g, _, why := forest.All(f, l[:cut])
		fine(t, why)
		if parts, why := observe.Fold(g, half, l[cut:]); why != api.OK || !sample.SameWatch(parts, v) {
			t.Fatalf("seed %d: in parts: error %d", seed, why)
		}
		for i, queue := range v.Queues {
			for _, r := range queue[len(w.Queues[i]):] {
				queued[r.Kind]++
			}
		}
		trailed += len(v.Regs) - len(w.Regs)
	})
	if queued[api.RecordAttr] < 200 || queued[api.RecordData] < 200 || queued[api.RecordTree] < 200 || trailed < 500 {
		t.Error("too few of a kind:", queued, trailed)
	}
}

// P24.6: what an observer is handed are records of the changes, in their order.
func TestInOrder(t *testing.T) {
	handed := 0
	each(300, 12, 30, func(seed int, d *sample.Dice, f api.Forest, w api.Watch, l []api.Change) {
		for i := range w.Queues {
			w.Queues[i] = nil
		}
		m := model{sample.Copy(f), api.Watch{}}
		var all []api.Record
		for _, c := range l {
			if r, is := m.record(c); is {
				all = append(all, r)
			}
			m.do(c)
		}
		v, why := observe.Fold(f, w, l)
		fine(t, why)
		_, notices, why := observe.Notify(v)
		fine(t, why)
		for _, n := range notices {
			at := 0
			for _, r := range n.Records {
				for at < len(all) && !sameTold(r, all[at]) {
					at++
				}
				if at++; at > len(all) {
					t.Fatalf("seed %d: %s is not in the order of %s", seed, written(n.Records), written(all))
				}
				handed++
			}
		}
	})
	if handed < 500 {
		t.Error("too few:", handed)
	}
}

// sameTold holds a record against one of a change, with the old one or without.
func sameTold(r, all api.Record) bool {
	if !r.Has {
		all.Has, all.Old, all.OldData = false, "", nil
	}
	return sample.SameRecords([]api.Record{r}, []api.Record{all})
}

// P24.7: an observer of a root with Subtree and all kinds is told of each change of an attribute, of data and of kids within its tree.
func TestAllAreTold(t *testing.T) {
	told, left := 0, 0
	for seed := range 200 {
		d := sample.NewDice(seed)
		f := sample.Thick(d, 3+d.Below(12))
		root, _ := order.Root(f, 1+d.Below(len(f.Nodes)))
		w := watching(t, f, 1, asks{1, root, every})
		g := f
		var l []api.Change
		want := 0
		for range 30 {
			c := sample.Change(d, g)
			next, why := forest.Apply(g, c)
			if why != api.OK {
				continue
			}
			at := c.Node
			if c.Kind == api.ChangeTree {
				at = c.Parent
			}
			in, why := order.Contains(g, root, at)
			if c.Kind == api.ChangeInsert || c.Kind == api.ChangeRemove || why != api.OK && c.Kind != api.ChangeMake {
				left++
				continue
			}
			if in && (c.Kind == api.ChangeAttr || c.Kind == api.ChangeData || c.Kind == api.ChangeTree) {
				want++
			}
			g, l = next, append(l, c)
		}
		v := folded(t, f, w, l...)
		if len(v.Queues[0]) != want {
			t.Fatalf("seed %d: %d of %d are told", seed, len(v.Queues[0]), want)
		}
		told += want
	}
	if told < 500 || left < 500 {
		t.Error("too few:", told, left)
	}
}

// tellsKids is the list of kids that a record of them makes of another one.
func tellsKids(kids []int, r api.Record) []int {
	kids = slices.DeleteFunc(slices.Clone(kids), func(h int) bool { return slices.Contains(r.Removed, h) })
	at := len(kids)
	if i := slices.Index(kids, r.Next); i >= 0 {
		at = i
	}
	return slices.Insert(kids, at, r.Added...)
}

// P24.7, with whole operations: whoever follows what is told of kids knows them, within what is removed, too.
func TestToldOfOperations(t *testing.T) {
	done := 0
	for seed := range 200 {
		d := sample.NewDice(seed)
		f := sample.Thick(d, 3+d.Below(12))
		w := api.Watch{Queues: make([][]api.Record, 1)}
		known := make([][]int, len(f.Nodes)+1)
		for i, n := range f.Nodes {
			known[i+1] = n.Kids
			if n.Parent == 0 {
				w = observed(t, f, w, asks{1, i + 1, kidsBelow})
			}
		}
		for range 12 {
			h, parent := 1+d.Below(len(f.Nodes)), 1+d.Below(len(f.Nodes))
			g, l, why := mutate.Append(f, h, parent)
			if d.Below(3) == 0 {
				g, l, why = mutate.Remove(f, f.Nodes[h-1].Parent, h)
			}
			if why != api.OK {
				continue
			}
			w, f = folded(t, f, w, l...), g
			done++
		}
		_, notices, why := observe.Notify(w)
		fine(t, why)
		for _, n := range notices {
			for _, r := range n.Records {
				known[r.Target] = tellsKids(known[r.Target], r)
			}
		}
		for i, n := range f.Nodes {
			if !slices.Equal(known[i+1], n.Kids) {
				t.Fatalf("seed %d: the kids of %d are %v, but %v are told", seed, i+1, n.Kids, known[i+1])
			}
		}
	}
	if done < 500 {
		t.Error("too few:", done)
	}
}

// P24.8: behind Notify all queues are empty, and who was handed something has no registration with a Source; once more it hands over nothing.
func TestEmptied(t *testing.T) {
	gone, stayed := 0, 0
	each(300, 12, 30, func(seed int, d *sample.Dice, f api.Forest, w api.Watch, l []api.Change) {
		v, why := observe.Fold(f, w, l)
		fine(t, why)
		left, notices, why := observe.Notify(v)
		fine(t, why)
		handed := map[int]int{}
		for i, n := range notices {
			handed[n.Observer] = len(n.Records)
			if len(n.Records) == 0 || !sample.SameRecords(n.Records, v.Queues[n.Observer-1]) || i > 0 && n.Observer <= notices[i-1].Observer {
				t.Fatalf("seed %d: %v of %v", seed, notices, v.Queues)
			}
		}
		for i, queue := range left.Queues {
			if len(queue) > 0 || len(v.Queues[i]) != handed[i+1] {
				t.Fatalf("seed %d: %v", seed, left)
			}
		}
		var stay []api.Registration
		for _, r := range v.Regs {
			if r.Source == 0 || handed[r.Observer] == 0 {
				stay = append(stay, r)
			}
			if r.Source != 0 && handed[r.Observer] == 0 {
				stayed++
			}
		}
		gone += len(v.Regs) - len(stay)
		want := api.Watch{Regs: stay, Next: v.Next, Queues: make([][]api.Record, len(v.Queues))}
		if !sample.SameWatch(left, want) {
			t.Fatalf("seed %d: %v; want %v", seed, left, want)
		}
		if again, none, why := observe.Notify(left); why != api.OK || len(none) != 0 || !sample.SameWatch(again, left) {
			t.Fatalf("seed %d: once more: %v, error %d", seed, none, why)
		}
	})
	if gone < 300 || stayed < 20 {
		t.Error("too few:", gone, stayed)
	}
}

// P24.10: what each call answers is right, and behind Disconnect nothing is queued for an observer; others are told what they would be.
func TestStaysRight(t *testing.T) {
	told := 0
	each(300, 12, 30, func(seed int, d *sample.Dice, f api.Forest, w api.Watch, l []api.Change) {
		observer := 1 + d.Below(len(w.Queues))
		off, why := observe.Disconnect(w, observer)
		fine(t, why)
		fine(t, observe.Check(f, off))
		v, why := observe.Fold(f, off, l)
		fine(t, why)
		g, _, why := forest.All(f, l)
		fine(t, why)
		fine(t, observe.Check(g, v))
		all, why := observe.Fold(f, w, l)
		fine(t, why)
		for i, queue := range v.Queues {
			if i+1 == observer && len(queue) > 0 || i+1 != observer && !sample.SameRecords(queue, all.Queues[i]) {
				t.Fatalf("seed %d: %v; with %d: %v", seed, v.Queues, observer, all.Queues)
			}
			told += len(queue)
		}
		more, n, why := observe.New(v)
		fine(t, why)
		fine(t, observe.Check(g, more))
		more, why = observe.Observe(g, more, n, 1+d.Below(len(g.Nodes)), sample.Options(d))
		fine(t, why)
		fine(t, observe.Check(g, more))
		more, _, why = observe.Take(more, 1+d.Below(n))
		fine(t, why)
		fine(t, observe.Check(g, more))
		more, _, why = observe.Notify(more)
		fine(t, why)
		fine(t, observe.Check(g, more))
	})
	if told < 500 {
		t.Error("too few:", told)
	}
}

// P24.2: Observe by dice: of each place there is one that was asked for, by the options that were told last.
func TestObserveByDice(t *testing.T) {
	twice, gone := 0, 0
	each(300, 6, 20, func(seed int, d *sample.Dice, f api.Forest, w api.Watch, l []api.Change) {
		g, _, why := forest.All(f, l)
		fine(t, why)
		w, why = observe.Fold(f, w, l)
		fine(t, why)
		for range 10 {
			observer, node, o := 1+d.Below(len(w.Queues)), 1+d.Below(len(g.Nodes)), sample.Options(d)
			want := sample.CopyWatch(w)
			at := slices.IndexFunc(want.Regs, func(r api.Registration) bool { return r.Observer == observer && r.Node == node && r.Source == 0 })
			if at < 0 {
				want.Regs = append(want.Regs, api.Registration{Id: w.Next, Observer: observer, Node: node, Options: o})
				want.Next++
			} else {
				id := want.Regs[at].Id
				want.Regs[at].Options = o
				want.Regs = slices.DeleteFunc(want.Regs, func(r api.Registration) bool { return r.Source == id })
				twice++
				gone += len(w.Regs) - len(want.Regs)
			}
			v, why := observe.Observe(g, w, observer, node, o)
			if why != api.OK || !sample.SameWatch(v, want) {
				t.Fatalf("seed %d: error %d\n%v\n%v", seed, why, v, want)
			}
			w = v
		}
	})
	if twice < 200 || gone < 50 {
		t.Error("too few:", twice, gone)
	}
}
