package iterate_test

import (
	"slices"
	"testing"

	"canopy/api"
	"canopy/forest"
	"canopy/iterate"
	"canopy/order"
	"canopy/sample"
	"canopy/walk"
)

// model says what the chapter's words say, by lists of nodes in tree order, as plainly as can be.
type model struct {
	t *testing.T
	f api.Forest
}

func (m model) all(h int) []int {
	l, why := order.All(m.f, h)
	if why != api.OK {
		m.t.Fatal("order.All:", why)
	}
	return l
}

func (m model) accepts(flt api.Filter, h int) bool {
	v, why := walk.Accept(m.f, flt, h)
	if why != api.OK {
		m.t.Fatal("walk.Accept:", why)
	}
	return v == api.VerdictAccept
}

// accepted are those of some nodes that are.
func (m model) accepted(flt api.Filter, some []int) []int {
	var l []int
	for _, h := range some {
		if m.accepts(flt, h) {
			l = append(l, h)
		}
	}
	return l
}

// sides are the nodes of an iterator that it has behind it, and those that it has ahead of it.
func (m model) sides(it api.Iterator) (passed, coming []int) {
	all := m.all(it.Root)
	at := slices.Index(all, it.Ref)
	if !it.Before {
		at++
	}
	return all[:at], all[at:]
}

func (m model) next(it api.Iterator) (api.Iterator, int) {
	_, coming := m.sides(it)
	l := m.accepted(it.Filter, coming)
	if len(l) == 0 {
		return it, 0
	}
	it.Ref, it.Before = l[0], false
	return it, l[0]
}

func (m model) prev(it api.Iterator) (api.Iterator, int) {
	passed, _ := m.sides(it)
	l := m.accepted(it.Filter, passed)
	if len(l) == 0 {
		return it, 0
	}
	it.Ref, it.Before = l[len(l)-1], true
	return it, it.Ref
}

func (m model) removing(it api.Iterator, node int) api.Iterator {
	gone, nodes := m.all(node), m.all(it.Root)
	if !slices.Contains(gone, it.Ref) || slices.Contains(gone, it.Root) {
		return it
	}
	behind := nodes[slices.Index(nodes, gone[len(gone)-1])+1:]
	if it.Before && len(behind) > 0 {
		it.Ref = behind[0]
		return it
	}
	it.Before = false
	parent := m.f.Nodes[node-1].Parent
	kids := m.f.Nodes[parent-1].Kids
	it.Ref = parent
	if i := slices.Index(kids, node); i > 0 {
		sibling := m.all(kids[i-1])
		it.Ref = sibling[len(sibling)-1]
	}
	return it
}

// standing are all iterators that there can be in a forest, of one filter.
func standing(m model, flt api.Filter) []api.Iterator {
	var l []api.Iterator
	for i := range m.f.Nodes {
		for _, ref := range m.all(i + 1) {
			for _, before := range []bool{true, false} {
				l = append(l, api.Iterator{Root: i + 1, Ref: ref, Before: before, Filter: flt})
			}
		}
	}
	return l
}

// P14.2, P14.3, P14.7: every iterator that there can be goes on, goes back, and gives way to every removal, as the model says.
func TestAsModel(t *testing.T) {
	nexts, prevs, moves := 0, 0, 0
	for seed := range 80 {
		d := sample.NewDice(seed)
		m := model{t, sample.Thick(d, 2+d.Below(16))}
		for _, it := range standing(m, sample.Filter(d)) {
			want, told := m.next(it)
			next, h, why := iterate.Next(m.f, it)
			if why != api.OK || h != told || !same(next, want) {
				t.Fatalf("seed %d: Next of %+v: %+v, %d, error %d; want %+v", seed, it, next, h, why, want)
			}
			if _, back, why := iterate.Prev(m.f, next); told != 0 && (back != told || why != api.OK) {
				t.Fatalf("seed %d: Prev behind Next of %+v: %d, error %d; want %d", seed, it, back, why, told)
			}
			nexts += min(told, 1)
			want, told = m.prev(it)
			if prev, h, why := iterate.Prev(m.f, it); why != api.OK || h != told || !same(prev, want) {
				t.Fatalf("seed %d: Prev of %+v: %+v, %d, error %d; want %+v", seed, it, prev, h, why, want)
			}
			prevs += min(told, 1)
			for i := range m.f.Nodes {
				want := m.removing(it, i+1)
				if got, why := iterate.Removing(m.f, it, i+1); why != api.OK || !same(got, want) {
					t.Fatalf("seed %d: Removing of %d, %+v: %+v, error %d; want %+v", seed, i+1, it, got, why, want)
				}
				if !same(want, it) {
					moves++
				}
			}
		}
	}
	if nexts < 1000 || prevs < 1000 || moves < 1000 {
		t.Error("too few of a kind:", nexts, prevs, moves)
	}
}

// P14.6: of a new iterator Next tells just the accepted nodes of the root, each once, in tree order; and then Prev the same back.
func TestAllOfThem(t *testing.T) {
	some := 0
	for seed := range 150 {
		d := sample.NewDice(seed)
		m := model{t, sample.Thick(d, 2+d.Below(16))}
		flt := sample.Filter(d)
		for i := range m.f.Nodes {
			want := m.accepted(flt, m.all(i+1))
			it, why := iterate.New(m.f, i+1, flt)
			if why != api.OK {
				t.Fatalf("seed %d: New: error %d", seed, why)
			}
			it = wantAllNext(t, m.f, it, want)
			slices.Reverse(want)
			for _, h := range append(want, 0, 0) {
				back, got, why := iterate.Prev(m.f, it)
				if why != api.OK || got != h {
					t.Fatalf("seed %d: Prev of %+v: %d, error %d; want %d", seed, it, got, why, h)
				}
				it = back
			}
			some += len(want)
		}
	}
	if some < 2000 {
		t.Error("too few:", some)
	}
}

// anyChange is one of any kind: not all of them can be done.
func anyChange(d *sample.Dice, f api.Forest) api.Change {
	h, next := 1+d.Below(len(f.Nodes)), len(f.Nodes)+1
	n := f.Nodes[h-1]
	switch d.Below(12) {
	case 0:
		return api.Change{Kind: api.ChangeMake, Node: next, Made: sample.Loose(d, f)}
	case 1:
		return api.Change{Kind: api.ChangeShadow, Node: h, Other: next, Made: api.Node{Kind: api.KindShadow, Mode: api.ShadowOpen}}
	case 2:
		return api.Change{Kind: api.ChangeAdopt, Node: h, Doc: f.Nodes[d.Below(len(f.Nodes))].Doc}
	case 3:
		return api.Change{Kind: api.ChangeData, Node: h, Data: sample.Data(d)}
	case 4:
		return api.Change{Kind: api.ChangeAttr, Node: h, Name: api.Name{Local: "zz"}, Has: true}
	case 5:
		return api.Change{Kind: api.ChangeTree, Parent: h, Removed: []int{h}}
	case 6, 7, 8:
		return sample.Insertion(d, f)
	}
	if n.Parent == 0 {
		return api.Change{}
	}
	return api.Change{Kind: api.ChangeRemove, Node: h, Parent: n.Parent, Index: slices.Index(f.Nodes[n.Parent-1].Kids, h)}
}

// P14.4, P14.8: all iterators come through changes as the model has them, change by change; and they are right in the forest behind.
func TestFoldAsModel(t *testing.T) {
	kinds, moves := map[api.ChangeKind]int{}, 0
	for seed := range 80 {
		d := sample.NewDice(seed)
		m := model{t, sample.Thick(d, 4+d.Below(16))}
		first, l := m.f, standing(m, sample.Filter(d))
		want := slices.Clone(l)
		var changes []api.Change
		for range 120 {
			c := anyChange(d, m.f)
			g, why := forest.Apply(m.f, c)
			if why != api.OK {
				continue
			}
			for i, it := range want {
				if c.Kind == api.ChangeRemove {
					want[i] = m.removing(it, c.Node)
				}
				if !same(want[i], it) {
					moves++
				}
			}
			kinds[c.Kind]++
			changes = append(changes, c)
			m.f = g
		}
		got, why := iterate.Fold(first, l, changes)
		if why != api.OK || !slices.EqualFunc(got, want, same) {
			t.Fatalf("seed %d: %+v, error %d; want %+v", seed, got, why, want)
		}
		for _, it := range got {
			if why := iterate.Check(m.f, it); why != api.OK {
				t.Fatalf("seed %d: %+v is not right behind the changes: error %d", seed, it, why)
			}
		}
	}
	if len(kinds) != 8 || kinds[api.ChangeRemove] < 500 || kinds[api.ChangeInsert] < 300 || moves < 1000 {
		t.Error("too few of a kind:", kinds, moves)
	}
}

// P14.9: where nothing is inserted, and nobody goes back, Next tells no node that it has told, whatever is removed between.
func TestNothingTwice(t *testing.T) {
	tellings, removals := 0, 0
	for seed := range 400 {
		d := sample.NewDice(seed)
		f := sample.Thick(d, 4+d.Below(30))
		it, why := iterate.New(f, 1+d.Below(len(f.Nodes)), sample.Filter(d))
		told := map[int]int{}
		for range 60 {
			var h int
			if it, h, why = iterate.Next(f, it); why != api.OK {
				t.Fatalf("seed %d: Next: error %d", seed, why)
			}
			if told[h]++; h != 0 && told[h] > 1 {
				t.Fatalf("seed %d: %d is told twice", seed, h)
			}
			tellings += min(h, 1)
			c := anyChange(d, f)
			if c.Kind != api.ChangeRemove || d.Below(2) == 0 {
				continue
			}
			l, why := iterate.Fold(f, []api.Iterator{it}, []api.Change{c})
			g, no := forest.Apply(f, c)
			if why != api.OK || no != api.OK {
				t.Fatalf("seed %d: errors %d, %d", seed, why, no)
			}
			f, it = g, l[0]
			removals++
		}
	}
	if tellings < 500 || removals < 500 {
		t.Error("too few of a kind:", tellings, removals)
	}
}
