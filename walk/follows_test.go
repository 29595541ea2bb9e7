package walk_test

import (
	"slices"
	"testing"

	"canopy/api"
	"canopy/order"
	"canopy/sample"
	"canopy/walk"
)

// model tells where ways lead by what stands between two nodes, and not by going there. It is asked only of a Current that its Root contains.
type model struct {
	t *testing.T
	f api.Forest
	w api.Walker
}

func (m model) says(h int) api.Verdict {
	v, why := walk.Accept(m.f, m.w.Filter, h)
	if why != api.OK {
		m.t.Fatal("Accept:", why)
	}
	return v
}

func (m model) accepts(h int) bool { return m.says(h) == api.VerdictAccept }

// between are the nodes above one that lie below another one.
func (m model) between(top, h int) []int {
	var l []int
	for at := m.f.Nodes[h-1].Parent; at != top; at = m.f.Nodes[at-1].Parent {
		l = append(l, at)
	}
	return l
}

// only tells whether all nodes between two are of one of some verdicts.
func (m model) only(top, h int, verdicts ...api.Verdict) bool {
	return !slices.ContainsFunc(m.between(top, h), func(at int) bool { return !slices.Contains(verdicts, m.says(at)) })
}

// within are the nodes of the root, in tree order.
func (m model) within() []int {
	l, why := order.All(m.f, m.w.Root)
	if why != api.OK {
		m.t.Fatal("order.All:", why)
	}
	return l
}

func (m model) common(h int) int {
	c, why := order.Common(m.f, m.w.Current, h)
	if why != api.OK {
		m.t.Fatal("order.Common:", why)
	}
	return c
}

// reaches tells whether a way may lead from Current to a node, if nothing that is nearer holds it up.
func (m model) reaches(way api.Way, h int) bool {
	current, c := m.w.Current, m.common(h)
	above, below := c == h, c == current
	if h == current || !m.accepts(h) {
		return false
	}
	switch way {
	case api.WayParent:
		return above
	case api.WayFirst, api.WayLast:
		return below && m.only(current, h, api.VerdictSkip)
	case api.WayAhead, api.WayBehind:
		return !above && !below && m.only(c, h, api.VerdictSkip) && m.only(c, current, api.VerdictSkip, api.VerdictReject)
	case api.WayBack:
		return above || !below && m.only(c, h, api.VerdictSkip, api.VerdictAccept)
	}
	return !above && m.only(c, h, api.VerdictSkip, api.VerdictAccept)
}

// step is the first one that a way may lead to, or the last one, as it goes.
func (m model) step(way api.Way) int {
	all := m.within()
	at := slices.Index(all, m.w.Current)
	switch way {
	case api.WayParent, api.WayBack, api.WayAhead:
		all = all[:at]
	case api.WayBehind, api.WayOn:
		all = all[at:]
	}
	if way != api.WayFirst && way != api.WayBehind && way != api.WayOn {
		slices.Reverse(all)
	}
	for _, h := range all {
		if m.reaches(way, h) {
			return h
		}
	}
	return 0
}

// thicket is a forest, and a filter for it.
func thicket(seed int) (api.Forest, api.Filter) {
	d := sample.NewDice(seed)
	return sample.Thick(d, 2+d.Below(18)), sample.Filter(d)
}

// Words, 13.2, 13.6: from every node within every root every way leads where the model says, to what is accepted and is not outside the root.
func TestAsModel(t *testing.T) {
	found := map[api.Way]int{}
	for seed := range 120 {
		f, flt := thicket(seed)
		for root := 1; root <= len(f.Nodes); root++ {
			all, _ := order.All(f, root)
			for _, current := range all {
				m := model{t, f, api.Walker{Root: root, Current: current, Filter: flt}}
				for _, way := range allWays() {
					want := m.step(way)
					w, h, why := walk.Step(f, m.w, way)
					if why != api.OK || h != want {
						t.Fatalf("seed %d: root %d, way %d from %d, %+v: %d, error %d; want %d", seed, root, way, current, flt, h, why, want)
					}
					if h == 0 {
						h = current
					} else {
						found[way]++
					}
					if w.Root != root || w.Current != h || !sameFilter(w.Filter, flt) || !slices.Contains(all, h) || want != 0 && !m.accepts(h) {
						t.Fatalf("seed %d: root %d, way %d from %d: the walker is %+v", seed, root, way, current, w)
					}
				}
			}
		}
	}
	for _, way := range allWays() {
		if found[way] < 200 {
			t.Errorf("too few of way %d: %d", way, found[way])
		}
	}
}

// standard goes the ways as the DOM standard's algorithms do, which ask for the root where they stand: so it may be asked of a Current outside its Root, too.
type standard struct {
	f api.Forest
	w api.Walker
}

func (s standard) says(h int) api.Verdict {
	v, _ := walk.Accept(s.f, s.w.Filter, h)
	return v
}

func (s standard) parent(h int) int { return s.f.Nodes[h-1].Parent }

func (s standard) kid(h int, back bool) int {
	kids := s.f.Nodes[h-1].Kids
	switch {
	case len(kids) == 0:
		return 0
	case back:
		return kids[len(kids)-1]
	}
	return kids[0]
}

func (s standard) sibling(h int, back bool) int {
	var kids []int
	if parent := s.parent(h); parent != 0 {
		kids = append(slices.Clone(s.f.Nodes[parent-1].Kids), 0)
	} else {
		kids = []int{h, 0}
	}
	if back {
		kids = kids[:len(kids)-1]
		slices.Reverse(kids)
		kids = append(kids, 0)
	}
	return kids[slices.Index(kids, h)+1]
}

func (s standard) parentNode() int {
	node := s.w.Current
	for node != 0 && node != s.w.Root {
		node = s.parent(node)
		if node != 0 && s.says(node) == api.VerdictAccept {
			return node
		}
	}
	return 0
}

func (s standard) traverseChildren(back bool) int {
	node := s.kid(s.w.Current, back)
main:
	for node != 0 {
		result := s.says(node)
		if result == api.VerdictAccept {
			return node
		}
		if result == api.VerdictSkip {
			if child := s.kid(node, back); child != 0 {
				node = child
				continue
			}
		}
		for node != 0 {
			if sibling := s.sibling(node, back); sibling != 0 {
				node = sibling
				continue main
			}
			parent := s.parent(node)
			if parent == 0 || parent == s.w.Root || parent == s.w.Current {
				return 0
			}
			node = parent
		}
	}
	return 0
}

func (s standard) traverseSiblings(back bool) int {
	node := s.w.Current
	if node == s.w.Root {
		return 0
	}
	for {
		sibling := s.sibling(node, back)
		for sibling != 0 {
			node = sibling
			result := s.says(node)
			if result == api.VerdictAccept {
				return node
			}
			sibling = s.kid(node, back)
			if result == api.VerdictReject || sibling == 0 {
				sibling = s.sibling(node, back)
			}
		}
		node = s.parent(node)
		if node == 0 || node == s.w.Root {
			return 0
		}
		if s.says(node) == api.VerdictAccept {
			return 0
		}
	}
}

func (s standard) previousNode() int {
	node := s.w.Current
	for node != s.w.Root {
		sibling := s.sibling(node, true)
		for sibling != 0 {
			node = sibling
			result := s.says(node)
			for result != api.VerdictReject && s.kid(node, true) != 0 {
				node = s.kid(node, true)
				result = s.says(node)
			}
			if result == api.VerdictAccept {
				return node
			}
			sibling = s.sibling(node, true)
		}
		if node == s.w.Root || s.parent(node) == 0 {
			return 0
		}
		node = s.parent(node)
		if s.says(node) == api.VerdictAccept {
			return node
		}
	}
	return 0
}

func (s standard) nextNode() int {
	node, result := s.w.Current, api.VerdictAccept
	for {
		for result != api.VerdictReject && s.kid(node, false) != 0 {
			node = s.kid(node, false)
			result = s.says(node)
			if result == api.VerdictAccept {
				return node
			}
		}
		sibling, temporary := 0, node
		for temporary != 0 {
			if temporary == s.w.Root {
				return 0
			}
			sibling = s.sibling(temporary, false)
			if sibling != 0 {
				node = sibling
				break
			}
			temporary = s.parent(temporary)
		}
		if sibling == 0 {
			return 0
		}
		result = s.says(node)
		if result == api.VerdictAccept {
			return node
		}
	}
}

func (s standard) step(way api.Way) int {
	switch way {
	case api.WayParent:
		return s.parentNode()
	case api.WayFirst, api.WayLast:
		return s.traverseChildren(way == api.WayLast)
	case api.WayAhead, api.WayBehind:
		return s.traverseSiblings(way == api.WayAhead)
	case api.WayBack:
		return s.previousNode()
	}
	return s.nextNode()
}

// Words, 13.2: from every node, within its root or not, every way leads where the standard's does, step by step till there is none.
func TestAsStandard(t *testing.T) {
	outside := map[api.Way]int{}
	for seed := range 120 {
		f, flt := thicket(seed)
		for root := 1; root <= len(f.Nodes); root++ {
			for current := 1; current <= len(f.Nodes); current++ {
				within, _ := order.Contains(f, root, current)
				for _, way := range allWays() {
					first := api.Walker{Root: root, Current: current, Filter: flt}
					var want []int
					for s := (standard{f, first}); s.step(way) != 0; s.w.Current = want[len(want)-1] {
						want = append(want, s.step(way))
					}
					if l, why := walk.All(f, first, way); why != api.OK || !slices.Equal(l, want) {
						t.Fatalf("seed %d: root %d, way %d from %d, %+v: %v, error %d; want %v", seed, root, way, current, flt, l, why, want)
					}
					if !within {
						outside[way] += len(want)
					}
				}
			}
		}
	}
	for _, way := range allWays() {
		if outside[way] < 500 {
			t.Errorf("too few of way %d: %d", way, outside[way])
		}
	}
}

// shownOf are the nodes within a root that are accepted, with nothing rejected above them there.
func shownOf(f api.Forest, flt api.Filter, root int) []int {
	var l []int
	for _, kid := range f.Nodes[root-1].Kids {
		v, _ := walk.Accept(f, flt, kid)
		if v == api.VerdictAccept {
			l = append(l, kid)
		}
		if v != api.VerdictReject {
			l = append(l, shownOf(f, flt, kid)...)
		}
	}
	return l
}

// 13.4: on from the root, all the way, are just the nodes that are shown; and the same back, and the root, if that is accepted.
func TestWhatIsShown(t *testing.T) {
	some, roots := 0, 0
	for seed := range 200 {
		f, flt := thicket(seed)
		for root := 1; root <= len(f.Nodes); root++ {
			want := shownOf(f, flt, root)
			w, why := walk.New(f, root, flt)
			on, no := walk.All(f, w, api.WayOn)
			if why != api.OK || no != api.OK || !slices.Equal(on, want) {
				t.Fatalf("seed %d, root %d: %v, errors %d, %d; want %v", seed, root, on, why, no, want)
			}
			if len(want) == 0 {
				continue
			}
			w.Current = want[len(want)-1]
			way := slices.Clone(want[:len(want)-1])
			slices.Reverse(way)
			if v, _ := walk.Accept(f, flt, root); v == api.VerdictAccept {
				way = append(way, root)
				roots++
			}
			if back, why := walk.All(f, w, api.WayBack); why != api.OK || !slices.Equal(back, way) {
				t.Fatalf("seed %d, root %d: back %v, error %d; want %v", seed, root, back, why, way)
			}
			some += len(want)
		}
	}
	if some < 1000 || roots < 200 {
		t.Error("too few of a kind:", some, roots)
	}
}

// 13.5: without a filter WayParent comes back from WayFirst, and WayAhead from WayBehind.
func TestThereAndBack(t *testing.T) {
	turns := map[api.Way]api.Way{api.WayFirst: api.WayParent, api.WayBehind: api.WayAhead}
	some := map[api.Way]int{}
	for seed := range 100 {
		f, _ := thicket(seed)
		for root := 1; root <= len(f.Nodes); root++ {
			all, _ := order.All(f, root)
			for _, current := range all {
				for there, back := range turns {
					w := api.Walker{Root: root, Current: current, Filter: api.Filter{Show: api.ShowAll}}
					w, h, _ := walk.Step(f, w, there)
					if h == 0 {
						continue
					}
					some[there]++
					if _, h, why := walk.Step(f, w, back); why != api.OK || h != current {
						t.Fatalf("seed %d, root %d: way %d from %d: back at %d, error %d", seed, root, there, current, h, why)
					}
				}
			}
		}
	}
	if some[api.WayFirst] < 200 || some[api.WayBehind] < 200 {
		t.Error("too few of a kind:", some)
	}
}
