package bounds_test

import (
	"slices"
	"testing"

	"canopy/api"
	"canopy/bounds"
	"canopy/chardata"
	"canopy/order"
	"canopy/sample"
)

// model says what the chapter's words say, as plainly as can be.
type model struct {
	t *testing.T
	f api.Forest
}

func (m model) fine(why api.Errno) {
	m.t.Helper()
	if why != api.OK {
		m.t.Fatal("error", why)
	}
}

func (m model) kind(h int) api.NodeKind { return m.f.Nodes[h-1].Kind }

func (m model) length(h int) int {
	switch m.kind(h) {
	case api.KindDoctype:
		return 0
	case api.KindText, api.KindCData, api.KindComment, api.KindInstruction:
		return len(m.f.Nodes[h-1].Data)
	}
	return len(m.f.Nodes[h-1].Kids)
}

func (m model) contains(a, b int) bool {
	is, why := order.Contains(m.f, a, b)
	m.fine(why)
	return is
}

func (m model) oneTree(a, b int) bool {
	_, is, why := order.Cmp(m.f, a, b)
	m.fine(why)
	return is
}

// position goes by the chapter's words, one by one.
func (m model) position(a, b api.Bound) int {
	switch {
	case a == b:
		return 0
	case a.Node == b.Node && a.Offset < b.Offset:
		return -1
	case a.Node == b.Node:
		return 1
	}
	sign, _, why := order.Cmp(m.f, a.Node, b.Node)
	m.fine(why)
	if sign > 0 {
		return -m.position(b, a)
	}
	for i, kid := range m.f.Nodes[a.Node-1].Kids {
		if m.contains(kid, b.Node) && i < a.Offset {
			return 1
		}
	}
	return -1
}

func (m model) valid(r api.Range) bool {
	return m.oneTree(r.Start.Node, r.End.Node) && m.position(r.Start, r.End) <= 0
}

func (m model) contained(r api.Range, h int) bool {
	return m.oneTree(h, r.Start.Node) && m.position(at(h, 0), r.Start) > 0 && m.position(at(h, m.length(h)), r.End) < 0
}

func (m model) partly(r api.Range, h int) bool {
	return m.contains(h, r.Start.Node) != m.contains(h, r.End.Node)
}

func (m model) meets(r api.Range, h int) bool {
	parent := m.f.Nodes[h-1].Parent
	if !m.oneTree(h, r.Start.Node) || parent == 0 {
		return m.oneTree(h, r.Start.Node)
	}
	i, why := order.Index(m.f, h)
	m.fine(why)
	return m.position(at(parent, i), r.End) < 0 && m.position(at(parent, i+1), r.Start) > 0
}

func (m model) isText(h int) bool { return m.kind(h) == api.KindText || m.kind(h) == api.KindCData }

func (m model) text(r api.Range) api.Units {
	data := func(h int) api.Units { return m.f.Nodes[h-1].Data }
	if r.Start.Node == r.End.Node && m.isText(r.Start.Node) {
		return data(r.Start.Node)[r.Start.Offset:r.End.Offset]
	}
	var u api.Units
	if m.isText(r.Start.Node) {
		u = append(u, data(r.Start.Node)[r.Start.Offset:]...)
	}
	root, why := order.Root(m.f, r.Start.Node)
	m.fine(why)
	for _, h := range m.all(root) {
		if m.isText(h) && m.contained(r, h) {
			u = append(u, data(h)...)
		}
	}
	if m.isText(r.End.Node) {
		u = append(u, data(r.End.Node)[:r.End.Offset]...)
	}
	return u
}

func (m model) all(h int) []int {
	l, why := order.All(m.f, h)
	m.fine(why)
	return l
}

// points are all those of some nodes, node by node.
func (m model) points(nodes []int) []api.Bound {
	var l []api.Bound
	for _, h := range nodes {
		for i := range m.length(h) + 1 {
			l = append(l, at(h, i))
		}
	}
	return l
}

// every is all points of the forest.
func (m model) every() []api.Bound {
	var nodes []int
	for i := range m.f.Nodes {
		nodes = append(nodes, i+1)
	}
	return m.points(nodes)
}

func grown(t *testing.T, seed, most int) (model, *sample.Dice) {
	d := sample.NewDice(seed)
	return model{t, sample.Thick(d, 2+d.Below(most))}, d
}

// 15.2, 15.3, 15.6: Compare and Valid of all pairs of points are as the words have them, and Walk has all points of a part, rising.
func TestAsModel(t *testing.T) {
	signs := map[int]int{}
	for seed := range 40 {
		m, _ := grown(t, seed, 10)
		for _, a := range m.every() {
			for _, b := range m.every() {
				want, no := 0, api.ErrDocument
				if m.oneTree(a.Node, b.Node) {
					want, no = m.position(a, b), api.OK
					signs[want]++
				}
				if n, why := bounds.Compare(m.f, a, b); n != want || why != no {
					t.Fatalf("seed %d: Compare(%v, %v) = %d, error %d; want %d", seed, a, b, n, why, want)
				}
				if is, why := bounds.Valid(m.f, from(a, b)); is != m.valid(from(a, b)) || why != api.OK {
					t.Fatalf("seed %d: Valid from %v to %v: %v, error %d", seed, a, b, is, why)
				}
			}
		}
		for i := range m.f.Nodes {
			want := m.points(m.all(i + 1))
			slices.SortFunc(want, m.position)
			if got, why := bounds.Walk(m.f, i+1); !slices.Equal(got, want) || why != api.OK {
				t.Fatalf("seed %d: Walk of %d: %v, error %d; want %v", seed, i+1, got, why, want)
			}
		}
	}
	if signs[-1] < 1000 || signs[0] < 500 || signs[1] != signs[-1] {
		t.Error("too few of a kind:", signs)
	}
}

// 15.6: of points of one tree the position is a total order: turned, it has the other sign; it goes on; Walk has them rising, and none twice.
func TestOrder(t *testing.T) {
	for seed := range 25 {
		m, d := grown(t, seed, 12)
		root, why := order.Root(m.f, 1+d.Below(len(m.f.Nodes)))
		m.fine(why)
		l, why := bounds.Walk(m.f, root)
		m.fine(why)
		for i, a := range l {
			for j, b := range l {
				n, why := bounds.Compare(m.f, a, b)
				if why != api.OK || (n < 0) != (i < j) || (n > 0) != (i > j) || (n == 0) != (a == b) {
					t.Fatalf("seed %d: Compare(%v, %v) = %d, error %d, at %d and %d", seed, a, b, n, why, i, j)
				}
			}
		}
	}
}

// someRange is a range that is valid.
func someRange(m model, d *sample.Dice) api.Range {
	root, why := order.Root(m.f, 1+d.Below(len(m.f.Nodes)))
	m.fine(why)
	l := m.points(m.all(root))
	r := from(l[d.Below(len(l))], l[d.Below(len(l))])
	if m.position(r.Start, r.End) > 0 {
		r = from(r.End, r.Start)
	}
	return r
}

// 15.3, 15.4: of valid ranges all nodes and all points are as the words have them, and so is the text.
func TestRangesAsModel(t *testing.T) {
	contained, partly, met, units := 0, 0, 0, 0
	for seed := range 300 {
		m, d := grown(t, seed, 14)
		r := someRange(m, d)
		for i := range m.f.Nodes {
			h := i + 1
			is, part, why := bounds.Contains(m.f, r, h)
			if why != api.OK || is != m.contained(r, h) || part != m.partly(r, h) {
				t.Fatalf("seed %d: Contains of %v, %d: %v, %v, error %d", seed, r, h, is, part, why)
			}
			meets, why := bounds.Meets(m.f, r, h)
			if why != api.OK || meets != m.meets(r, h) {
				t.Fatalf("seed %d: Meets of %v, %d: %v, error %d", seed, r, h, meets, why)
			}
			contained, partly, met = contained+count(is), partly+count(part), met+count(meets)
		}
		common, why := bounds.Common(m.f, r)
		want, no := order.Common(m.f, r.Start.Node, r.End.Node)
		if why != api.OK || no != api.OK || common != want {
			t.Fatalf("seed %d: Common of %v: %d, error %d; want %d", seed, r, common, why, want)
		}
		got, why := bounds.Text(m.f, r)
		if why != api.OK || !slices.Equal(got, m.text(r)) {
			t.Fatalf("seed %d: Text of %v: %v, error %d; want %v", seed, r, got, why, m.text(r))
		}
		units += len(got)
		wantIn(m, r)
	}
	if contained < 100 || partly < 100 || met < 300 || units < 200 {
		t.Error("too few of a kind:", contained, partly, met, units)
	}
}

func count(is bool) int {
	if is {
		return 1
	}
	return 0
}

// wantIn asks for all points of a forest.
func wantIn(m model, r api.Range) {
	m.t.Helper()
	for _, b := range m.every() {
		want, no := 0, api.OK
		switch {
		case !m.oneTree(b.Node, r.Start.Node):
			no = api.ErrDocument
		case m.position(b, r.Start) < 0:
			want = -1
		case m.position(b, r.End) > 0:
			want = 1
		}
		if n, why := bounds.In(m.f, r, b); n != want || why != no {
			m.t.Fatalf("In of %v, %v: %d, error %d; want %d, error %d", r, b, n, why, want, no)
		}
	}
}

// 15.7, 15.8: a contained node has all its points in the range, and all within it contained; none is partly contained as well; the ends are in the range.
func TestEnds(t *testing.T) {
	some := 0
	for seed := range 200 {
		m, d := grown(t, seed, 14)
		r := someRange(m, d)
		for _, end := range []api.Bound{r.Start, r.End} {
			if n, why := bounds.In(m.f, r, end); n != 0 || why != api.OK {
				t.Fatalf("seed %d: In of %v, %v: %d, error %d", seed, r, end, n, why)
			}
		}
		for i := range m.f.Nodes {
			is, part, why := bounds.Contains(m.f, r, i+1)
			if why != api.OK || is && part {
				t.Fatalf("seed %d: %v, %d: %v, %v, error %d", seed, r, i+1, is, part, why)
			}
			if !is {
				continue
			}
			some++
			for _, h := range m.all(i + 1) {
				if inner, _, why := bounds.Contains(m.f, r, h); !inner || why != api.OK {
					t.Fatalf("seed %d: %v contains %d, but not %d in it: error %d", seed, r, i+1, h, why)
				}
			}
			for _, b := range m.points(m.all(i + 1)) {
				if n, why := bounds.In(m.f, r, b); n != 0 || why != api.OK {
					t.Fatalf("seed %d: %v contains %d, but not its %v: %d, error %d", seed, r, i+1, b, n, why)
				}
			}
		}
	}
	if some < 100 {
		t.Error("too few:", some)
	}
}

// 15.8: from a point to itself nothing is contained, not even in part, and there is no text.
func TestCollapsed(t *testing.T) {
	for seed := range 40 {
		m, _ := grown(t, seed, 10)
		for _, b := range m.every() {
			for i := range m.f.Nodes {
				if is, part, why := bounds.Contains(m.f, from(b, b), i+1); is || part || why != api.OK {
					t.Fatalf("seed %d: %v, %d: %v, %v, error %d", seed, b, i+1, is, part, why)
				}
			}
			if u, why := bounds.Text(m.f, from(b, b)); len(u) != 0 || why != api.OK {
				t.Fatalf("seed %d: %v: %v, error %d", seed, b, u, why)
			}
		}
	}
}

// 15.9: the range of all of a node has all within it contained, and its text is the node's content.
func TestAllOfNode(t *testing.T) {
	texts := 0
	for seed := range 80 {
		m, _ := grown(t, seed, 20)
		for i := range m.f.Nodes {
			h := i + 1
			length, why := bounds.Length(m.f, h)
			m.fine(why)
			r := from(at(h, 0), at(h, length))
			for _, in := range m.all(h)[1:] {
				if is, part, why := bounds.Contains(m.f, r, in); !is || part || why != api.OK {
					t.Fatalf("seed %d: %v, %d: %v, %v, error %d", seed, r, in, is, part, why)
				}
			}
			switch m.kind(h) {
			case api.KindElement, api.KindFragment, api.KindShadow:
				want, is, why := chardata.Content(m.f, h)
				got, no := bounds.Text(m.f, r)
				if !is || why != api.OK || no != api.OK || !slices.Equal(got, want) {
					t.Fatalf("seed %d: the text of %d: %v, errors %d, %d; want %v", seed, h, got, why, no, want)
				}
				texts += count(len(want) > 0)
			}
		}
	}
	if texts < 100 {
		t.Error("too few:", texts)
	}
}
