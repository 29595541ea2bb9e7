package ranges_test

import (
	"slices"
	"testing"

	"canopy/api"
	"canopy/bounds"
	"canopy/chardata"
	"canopy/forest"
	"canopy/mutate"
	"canopy/order"
	"canopy/ranges"
	"canopy/sample"
)

// model says what the chapter's words say, as plainly as can be, by the calls of other layers.
type model struct {
	t *testing.T
	f api.Forest
}

func (m model) fine(why api.Errno) {
	m.t.Helper()
	if why != api.OK {
		m.t.Fatal("error", why)
	}
}

func (m model) node(h int) api.Node { return m.f.Nodes[h-1] }

func (m model) place(h int) int {
	i, why := order.Index(m.f, h)
	m.fine(why)
	return i
}

func (m model) hasData(h int) bool {
	switch m.node(h).Kind {
	case api.KindText, api.KindCData, api.KindComment, api.KindInstruction:
		return true
	}
	return false
}

func (m model) becomes(b api.Bound, c api.Change) api.Bound {
	switch c.Kind {
	case api.ChangeInsert:
		if b.Node == c.Parent && b.Offset > c.Index {
			b.Offset++
		}
	case api.ChangeRemove:
		in, why := order.Contains(m.f, c.Node, b.Node)
		m.fine(why)
		if in {
			return at(c.Parent, c.Index)
		}
		if b.Node == c.Parent && b.Offset > c.Index {
			b.Offset--
		}
	case api.ChangeData:
		if b.Node == c.Node && b.Offset > c.Offset+c.Count {
			b.Offset += len(c.Data) - c.Count
		} else if b.Node == c.Node && b.Offset > c.Offset {
			b.Offset = c.Offset
		}
	case api.ChangeSplit:
		return m.bySplit(b, c)
	case api.ChangeMerge:
		return m.byMerge(b, c)
	}
	return b
}

func (m model) bySplit(b api.Bound, c api.Change) api.Bound {
	if c.Node == 0 || c.Other == 0 || m.node(c.Node).Parent == 0 || !m.hasData(c.Node) || !m.hasData(c.Other) {
		return b
	}
	node, other := m.node(c.Node), m.node(c.Other)
	if other.Parent != node.Parent || m.place(c.Other) != m.place(c.Node)+1 || c.Offset < 0 || c.Offset > len(node.Data) {
		return b
	}
	if !slices.Equal(other.Data, node.Data[c.Offset:]) {
		return b
	}
	if b.Node == c.Node && b.Offset > c.Offset {
		return at(c.Other, b.Offset-c.Offset)
	}
	if b.Node == node.Parent && b.Offset == m.place(c.Node)+1 {
		b.Offset++
	}
	return b
}

func (m model) byMerge(b api.Bound, c api.Change) api.Bound {
	if c.Node == 0 || c.Other == 0 || m.node(c.Node).Parent == 0 || !m.hasData(c.Node) || !m.hasData(c.Other) {
		return b
	}
	node, other := m.node(c.Node), m.node(c.Other)
	if other.Parent != node.Parent || m.place(c.Node) >= m.place(c.Other) || c.Offset < 0 || c.Offset > len(node.Data) {
		return b
	}
	to := c.Offset + len(other.Data)
	if to > len(node.Data) || !slices.Equal(node.Data[c.Offset:to], other.Data) {
		return b
	}
	if b.Node == c.Other {
		return at(c.Node, b.Offset+c.Offset)
	}
	if b == at(node.Parent, m.place(c.Other)) {
		return at(c.Node, c.Offset)
	}
	return b
}

func (m model) length(h int) int {
	n, why := bounds.Length(m.f, h)
	m.fine(why)
	return n
}

// points are all those of the tree of a node, in order.
func (m model) points(h int) []api.Bound {
	root, why := order.Root(m.f, h)
	m.fine(why)
	l, why := bounds.Walk(m.f, root)
	m.fine(why)
	return l
}

// someRange is a range that is valid; now and then it is collapsed.
func (m model) someRange(d *sample.Dice) api.Range {
	l := m.points(1 + d.Below(len(m.f.Nodes)))
	i, j := d.Below(len(l)), d.Below(len(l))
	return from(l[min(i, j)], l[max(i, j)])
}

func (m model) some(d *sample.Dice, n int) []api.Range {
	var l []api.Range
	for range n {
		l = append(l, m.someRange(d))
	}
	return l
}

// texts is a forest with many texts, of few units each, most of them beside one another.
func texts(d *sample.Dice) api.Forest {
	f, home, why := forest.Add(sample.Thick(d, 4+d.Below(8)), api.Node{Kind: api.KindElement, Name: api.Name{Local: "home"}, Doc: 1})
	if why != api.OK {
		panic(why)
	}
	for range 12 {
		parent := home
		if d.Below(3) == 0 {
			parent = 1 + d.Below(len(f.Nodes))
		}
		kind := []api.NodeKind{api.KindText, api.KindText, api.KindText, api.KindCData, api.KindComment}[d.Below(5)]
		g, h, why := forest.Add(f, api.Node{Kind: kind, Doc: f.Nodes[parent-1].Doc, Data: shortData(d)})
		if why != api.OK {
			panic(why)
		}
		f = g
		put := api.Change{Kind: api.ChangeInsert, Node: h, Parent: parent, Index: d.Below(len(f.Nodes[parent-1].Kids) + 1)}
		if g, why := forest.Apply(f, put); why == api.OK {
			f = g
		}
	}
	return f
}

// shortData are so few units of one kind that those of one node are those of another one, now and then.
func shortData(d *sample.Dice) api.Units { return slices.Repeat(api.Units{'x'}, d.Below(4)) }

// anyChange is one of any kind: not all of them can be done.
func anyChange(d *sample.Dice, f api.Forest) api.Change {
	h, next := 1+d.Below(len(f.Nodes)), len(f.Nodes)+1
	n := f.Nodes[h-1]
	switch d.Below(20) {
	case 0:
		return api.Change{Kind: api.ChangeMake, Node: next, Made: api.Node{Kind: api.KindText, Doc: n.Doc, Data: shortData(d)}}
	case 1:
		return api.Change{Kind: api.ChangeShadow, Node: h, Other: next, Made: api.Node{Kind: api.KindShadow, Mode: api.ShadowOpen}}
	case 2:
		return api.Change{Kind: api.ChangeAdopt, Node: h, Doc: f.Nodes[d.Below(len(f.Nodes))].Doc}
	case 3:
		return api.Change{Kind: api.ChangeAttr, Node: h, Name: api.Name{Local: "zz"}, Has: true}
	case 4:
		return api.Change{Kind: api.ChangeTree, Parent: h, Removed: []int{h}}
	case 5, 6, 7, 8:
		return retelling(d, f, h)
	}
	return plainChange(d, f)
}

// retelling is a split or a merge, most of them of a node and a sibling, whose data are at the end of the node's.
func retelling(d *sample.Dice, f api.Forest, h int) api.Change {
	other, offset := d.Below(len(f.Nodes)+1), d.Below(6)-1
	if parent := f.Nodes[h-1].Parent; parent != 0 && d.Below(8) > 0 {
		kids := f.Nodes[parent-1].Kids
		other = kids[(slices.Index(kids, h)+1+d.Below(2))%len(kids)]
		if d.Below(4) > 0 {
			offset = len(f.Nodes[h-1].Data) - len(f.Nodes[other-1].Data)
		}
	}
	return api.Change{Kind: api.ChangeSplit + api.ChangeKind(d.Below(2)), Node: h, Other: other, Offset: offset}
}

// plainChange is an insertion, a removal, or one of data.
func plainChange(d *sample.Dice, f api.Forest) api.Change {
	h := 1 + d.Below(len(f.Nodes))
	n := f.Nodes[h-1]
	switch d.Below(10) {
	case 0, 1, 2, 3, 4, 5:
		return sample.Insertion(d, f)
	case 6, 7:
		offset := d.Below(len(n.Data) + 1)
		return api.Change{Kind: api.ChangeData, Node: h, Offset: offset, Count: d.Below(len(n.Data) - offset + 1), Data: shortData(d)}
	}
	if n.Parent == 0 {
		return api.Change{}
	}
	return api.Change{Kind: api.ChangeRemove, Node: h, Parent: n.Parent, Index: slices.Index(f.Nodes[n.Parent-1].Kids, h)}
}

// done are some changes of those that a maker makes which can be done, one behind the other, and the forest behind them.
func done(d *sample.Dice, f api.Forest, tries int, maker func(*sample.Dice, api.Forest) api.Change) ([]api.Change, api.Forest) {
	var l []api.Change
	for range tries {
		c := maker(d, f)
		if g, why := forest.Apply(f, c); why == api.OK {
			l, f = append(l, c), g
		}
	}
	return l, f
}

// Words, P16.6: ranges come through changes of all kinds as the words have it, change by change, by Adjust and by Fold.
func TestFoldAsModel(t *testing.T) {
	kinds, moves := map[api.ChangeKind]int{}, map[api.ChangeKind]int{}
	for seed := range 150 {
		d := sample.NewDice(seed)
		m := model{t, texts(d)}
		first, l := m.f, m.some(d, 30)
		want := slices.Clone(l)
		changes, _ := done(d, m.f, 40, anyChange)
		for _, c := range changes {
			for i, r := range want {
				want[i] = from(m.becomes(r.Start, c), m.becomes(r.End, c))
				if want[i] != r {
					moves[c.Kind]++
				}
				if !valid(t, m.f, r) {
					continue
				}
				if got, why := ranges.Adjust(m.f, r, c); got != want[i] || why != api.OK {
					t.Fatalf("seed %d: Adjust of %v by %+v: %v, error %d; want %v", seed, r, c, got, why, want[i])
				}
			}
			kinds[c.Kind]++
			g, why := forest.Apply(m.f, c)
			m.fine(why)
			m.f = g
		}
		if got, why := ranges.Fold(first, l, changes); why != api.OK || !slices.Equal(got, want) {
			t.Fatalf("seed %d: %v, error %d; want %v", seed, got, why, want)
		}
		for _, r := range want {
			m.fine(bounds.Check(m.f, r.Start))
			m.fine(bounds.Check(m.f, r.End))
		}
	}
	if len(kinds) != 10 || moves[api.ChangeInsert] < 100 || moves[api.ChangeRemove] < 500 || moves[api.ChangeData] < 100 || moves[api.ChangeSplit] < 50 || moves[api.ChangeMerge] < 50 {
		t.Error("too few of a kind:", kinds, moves)
	}
}

// P16.2 to P16.4, P16.8: what the calls that set a range answer is valid, the end that was set is where it was set, and the other one stays just if it can.
func TestSetRanges(t *testing.T) {
	stays := map[bool]int{}
	for seed := range 60 {
		d := sample.NewDice(seed)
		m := model{t, texts(d)}
		r := m.someRange(d)
		for i := range m.f.Nodes {
			h := i + 1
			for offset := range m.length(h) + 1 {
				b := at(h, offset)
				if m.node(h).Kind == api.KindDoctype {
					continue
				}
				start, end := from(b, r.End), from(r.Start, b)
				if !m.rising(b, r.End) {
					start = from(b, b)
				}
				if !m.rising(r.Start, b) {
					end = from(b, b)
				}
				stays[start.End == r.End]++
				stays[end.Start == r.Start]++
				wantRange(t, "Start", start)(ranges.Start(m.f, r, b))
				wantRange(t, "End", end)(ranges.End(m.f, r, b))
			}
			wantValidRanges(m, r, h)
		}
	}
	if stays[true] < 500 || stays[false] < 500 {
		t.Error("too few of a kind:", stays)
	}
}

// rising tells whether two points are in one tree, and the second one is not ahead of the first one.
func (m model) rising(a, b api.Bound) bool {
	n, why := bounds.Compare(m.f, a, b)
	return n <= 0 && why == api.OK
}

// wantValidRanges has all calls that take a range and a node answer valid ranges, if they do not refuse.
func wantValidRanges(m model, r api.Range, h int) {
	m.t.Helper()
	check := func(got api.Range, why api.Errno) {
		m.t.Helper()
		if why == api.OK && !valid(m.t, m.f, got) || why != api.OK && got != (api.Range{}) {
			m.t.Fatalf("%v, %d: %v, error %d", r, h, got, why)
		}
	}
	check(ranges.New(m.f, h))
	check(ranges.Collapse(m.f, r, true))
	check(ranges.Collapse(m.f, r, false))
	check(ranges.Select(m.f, r, h))
	check(ranges.Contents(m.f, r, h))
	parent := m.node(h).Parent
	for _, side := range []api.Side{api.SideBefore, api.SideAfter} {
		start, why := ranges.StartBeside(m.f, r, side, h)
		check(start, why)
		end, no := ranges.EndBeside(m.f, r, side, h)
		check(end, no)
		if parent == 0 {
			continue
		}
		if set := at(parent, m.place(h)+int(side)); start.Start != set || end.End != set {
			m.t.Fatalf("beside %d: %v, %v; errors %d, %d", h, start, end, why, no)
		}
	}
}

// P16.9, P16.10: behind insertions, removals and changes of data, in any order, valid ranges are valid, and collapsed ones collapsed.
func TestStayValid(t *testing.T) {
	kinds, moved := map[api.ChangeKind]int{}, 0
	for seed := range 300 {
		d := sample.NewDice(seed)
		m := model{t, texts(d)}
		l := m.some(d, 20)
		changes, g := done(d, m.f, 40, plainChange)
		for _, c := range changes {
			kinds[c.Kind]++
		}
		moved += wantValidBehind(m, l, changes, g)
	}
	if kinds[api.ChangeInsert] < 300 || kinds[api.ChangeRemove] < 500 || kinds[api.ChangeData] < 500 || moved < 1000 {
		t.Error("too few of a kind:", kinds, moved)
	}
}

// wantValidBehind has valid ranges valid behind changes, and collapsed ones collapsed; it counts those that are others.
func wantValidBehind(m model, l []api.Range, changes []api.Change, g api.Forest) int {
	m.t.Helper()
	got, why := ranges.Fold(m.f, l, changes)
	m.fine(why)
	moved := 0
	for i, r := range got {
		if !valid(m.t, g, r) {
			m.t.Fatalf("%v became %v, which is not valid, by %+v", l[i], r, changes)
		}
		if l[i].Start == l[i].End && r.Start != r.End {
			m.t.Fatalf("%v was collapsed, and became %v, by %+v", l[i], r, changes)
		}
		if r != l[i] {
			moved++
		}
	}
	return moved
}

// overOf is a node's parent; the node itself, if it has none.
func overOf(f api.Forest, h int) int {
	if parent := f.Nodes[h-1].Parent; parent != 0 {
		return parent
	}
	return h
}

// How many calls aCall has.
const callCount = 20

// aCall is the call of chardata or of mutate of a number, with arguments by which not all of them are done.
func aCall(which int, d *sample.Dice, f api.Forest) (api.Forest, []api.Change, api.Errno) {
	node := func() int { return 1 + d.Below(len(f.Nodes)) }
	h, data := node(), shortData(d)
	offset, count := uint32(d.Below(4)), uint32(d.Below(4))
	some := []int{node(), node()}[:d.Below(3)]
	kid := 0
	if kids := f.Nodes[h-1].Kids; len(kids) > 0 {
		kid = kids[d.Below(len(kids))]
	}
	switch which {
	case 0:
		return chardata.Replace(f, h, offset, count, data)
	case 1:
		return chardata.Insert(f, h, offset, data)
	case 2:
		return chardata.Delete(f, h, offset, count)
	case 3:
		return chardata.Append(f, h, data)
	case 4:
		return chardata.Set(f, h, data)
	case 5:
		g, _, l, why := chardata.Split(f, h, offset)
		return g, l, why
	case 6:
		return mutate.Insert(f, node(), h, kid)
	case 7:
		return mutate.Append(f, node(), h)
	case 8:
		return mutate.Replace(f, node(), h, kid)
	case 9:
		return mutate.ReplaceAll(f, h, d.Below(len(f.Nodes)+1))
	case 10:
		return mutate.Remove(f, h, kid)
	case 11:
		return mutate.Adopt(f, node(), f.Nodes[h-1].Doc)
	case 12:
		return mutate.Normalize(f, overOf(f, h))
	case 13:
		return mutate.SetContent(f, h, data)
	case 14:
		return mutate.Before(f, h, some)
	case 15:
		return mutate.After(f, h, some)
	case 16:
		return mutate.ReplaceWith(f, h, some)
	case 17:
		return mutate.Prepend(f, h, some)
	case 18:
		return mutate.AppendAll(f, h, some)
	}
	return mutate.ReplaceKids(f, h, some)
}

// P16.9, P16.10: valid ranges are valid behind the changes of every call of chardata and mutate, and collapsed ones collapsed.
func TestStayValidBehindCalls(t *testing.T) {
	kinds, calls, moved := map[api.ChangeKind]int{}, [callCount]int{}, 0
	for seed := range 200 {
		for which := range callCount {
			d := sample.NewDice(seed*callCount + which)
			m := model{t, texts(d)}
			for range 4 {
				g, changes, why := aCall(which, d, m.f)
				if why != api.OK || len(changes) == 0 {
					continue
				}
				for _, c := range changes {
					kinds[c.Kind]++
				}
				calls[which]++
				moved += wantValidBehind(m, m.some(d, 20), changes, g)
				m.f = g
			}
		}
	}
	if slices.Min(calls[:]) < 100 || moved < 5000 || kinds[api.ChangeSplit] < 100 || kinds[api.ChangeMerge] < 100 {
		t.Error("too few of a kind:", kinds, calls, moved)
	}
}

// P16.9: what Normalize merges, and what Split divides, keeps every point where it stood in the text.
func TestTextStays(t *testing.T) {
	kept := 0
	for seed := range 400 {
		d := sample.NewDice(seed)
		m := model{t, texts(d)}
		l := m.some(d, 20)
		g, changes, why := mutate.Normalize(m.f, overOf(m.f, 1+d.Below(len(m.f.Nodes))))
		if d.Below(2) == 0 {
			g, _, changes, why = chardata.Split(m.f, 1+d.Below(len(m.f.Nodes)), uint32(d.Below(3)))
		}
		if why != api.OK || len(changes) == 0 {
			continue
		}
		got, why := ranges.Fold(m.f, l, changes)
		m.fine(why)
		for i, r := range got {
			was, why := bounds.Text(m.f, l[i])
			m.fine(why)
			is, why := bounds.Text(g, r)
			m.fine(why)
			// without a parent there is nowhere for the rest of a text that is split
			if split := changes[len(changes)-1]; split.Kind == api.ChangeData && m.node(split.Node).Parent == 0 {
				continue
			}
			if !slices.Equal(was, is) {
				t.Fatalf("seed %d: %v became %v, and its text %v became %v, by %+v", seed, l[i], r, was, is, changes)
			}
			kept += len(is)
		}
	}
	if kept < 1000 {
		t.Error("too few:", kept)
	}
}

// P16.11: Fold of changes, and then of more, is Fold of all.
func TestFoldInParts(t *testing.T) {
	for seed := range 100 {
		d := sample.NewDice(seed)
		m := model{t, texts(d)}
		l := m.some(d, 20)
		some, g := done(d, m.f, 20, plainChange)
		more, _ := done(d, g, 20, anyChange)
		all, why := ranges.Fold(m.f, l, slices.Concat(some, more))
		m.fine(why)
		part, why := ranges.Fold(m.f, l, some)
		m.fine(why)
		parts, why := ranges.Fold(g, part, more)
		m.fine(why)
		if !slices.Equal(all, parts) {
			t.Fatalf("seed %d: %v in parts, %v at once", seed, parts, all)
		}
	}
}

// P16.5, P16.12: Compare is the position of the ends that how names; turned, it has the other sign; of a range and itself it is 0, of how 1 at least that, of how 3 at most. Has goes by positions, too.
func TestHeldAgainst(t *testing.T) {
	signs := map[int]int{}
	for seed := range 200 {
		d := sample.NewDice(seed)
		m := model{t, texts(d)}
		r, s := m.someRange(d), m.someRange(d)
		for how, x := range [4][2]api.Bound{{r.Start, s.Start}, {r.End, s.Start}, {r.End, s.End}, {r.Start, s.End}} {
			want, no := bounds.Compare(m.f, x[0], x[1])
			n, why := ranges.Compare(m.f, how, r, s)
			if n != want || why != no {
				t.Fatalf("seed %d: %d, %v, %v: %d, error %d; want %d, error %d", seed, how, r, s, n, why, want, no)
			}
			turned := [4]int{0, 3, 2, 1}[how]
			if back, why := ranges.Compare(m.f, turned, s, r); back != -n || why != no {
				t.Fatalf("seed %d: %d, %v, %v: %d, error %d; turned %d", seed, how, r, s, n, why, back)
			}
			signs[n]++
			self, why := ranges.Compare(m.f, how, r, r)
			if why != api.OK || how%2 == 0 && self != 0 || how == 1 && self < 0 || how == 3 && self > 0 {
				t.Fatalf("seed %d: %d, %v and itself: %d, error %d", seed, how, r, self, why)
			}
		}
		for _, b := range m.points(s.Start.Node) {
			if m.node(b.Node).Kind == api.KindDoctype {
				continue
			}
			want := m.rising(r.Start, b) && m.rising(b, r.End)
			if is, why := ranges.Has(m.f, r, b); is != want || why != api.OK {
				t.Fatalf("seed %d: Has of %v, %v: %v, error %d", seed, r, b, is, why)
			}
		}
	}
	if signs[-1] < 50 || signs[1] < 50 || signs[0] < 50 {
		t.Error("too few of a kind:", signs)
	}
}
