package find_test

import (
	"slices"
	"strings"
	"testing"

	"canopy/api"
	"canopy/find"
	"canopy/forest"
	"canopy/sample"
)

// model says what the chapter's words say of a right forest, as plainly as can be.
type model struct{ f api.Forest }

func (m model) node(h int) api.Node { return m.f.Nodes[h-1] }

func (m model) within(root int) []int {
	var l []int
	for _, kid := range m.node(root).Kids {
		if m.node(kid).Kind == api.KindElement {
			l = append(l, kid)
		}
		l = append(l, m.within(kid)...)
	}
	return l
}

// only are the elements within a root of which something is so.
func (m model) only(root int, is func(n api.Node) bool) []int {
	var l []int
	for _, h := range m.within(root) {
		if is(m.node(h)) {
			l = append(l, h)
		}
	}
	return l
}

func (m model) tag(root int, tag string) []int {
	inHTML := m.node(m.node(root).Doc).HTML
	return m.only(root, func(n api.Node) bool {
		own := n.Name.Local
		if n.Name.Prefix != "" {
			own = n.Name.Prefix + ":" + own
		}
		if tag == "*" {
			return true
		}
		if inHTML && n.Name.Space == api.SpaceHTML {
			return own == strings.ToLower(tag) // all are ASCII here
		}
		return own == tag
	})
}

func (m model) tagNS(root int, space, local string) []int {
	return m.only(root, func(n api.Node) bool {
		return (n.Name.Space == space || space == "*") && (n.Name.Local == local || local == "*")
	})
}

func (m model) class(root int, classes string) []int {
	return m.only(root, func(n api.Node) bool {
		own := strings.Fields(valueOf(n, "class"))
		wanted := strings.Fields(classes)
		for _, class := range wanted {
			if !slices.Contains(own, class) {
				return false
			}
		}
		return len(wanted) > 0
	})
}

// valueOf is the value of an attribute without a namespace.
func valueOf(n api.Node, local string) string {
	for _, a := range n.Attrs {
		if a.Name.Space == "" && a.Name.Local == local {
			return a.Value
		}
	}
	return ""
}

func (m model) id(root int, id string) int {
	for _, h := range m.within(root) {
		if id != "" && valueOf(m.node(h), "id") == id {
			return h
		}
	}
	return 0
}

func (m model) kids(h int) []int {
	var l []int
	for _, kid := range m.node(h).Kids {
		if m.node(kid).Kind == api.KindElement {
			l = append(l, kid)
		}
	}
	return l
}

// at goes from a node to the element that is asked, and asks it; "" where there is none.
func (m model) at(h int, ask func(h int) string) string {
	switch n := m.node(h); n.Kind {
	case api.KindElement:
		return ask(h)
	case api.KindDocument:
		if kids := m.kids(h); len(kids) > 0 {
			return ask(kids[0])
		}
		return ""
	case api.KindDoctype, api.KindFragment, api.KindShadow:
		return ""
	default:
		return m.above(h, ask)
	}
}

func (m model) above(h int, ask func(h int) string) string {
	if parent := m.node(h).Parent; parent != 0 && m.node(parent).Kind == api.KindElement {
		return ask(parent)
	}
	return ""
}

func (m model) space(h int, prefix string) string {
	n := m.node(h)
	if prefix == "xml" {
		return api.SpaceXML
	}
	if prefix == "xmlns" {
		return api.SpaceXMLNS
	}
	if n.Name.Space != "" && n.Name.Prefix == prefix {
		return n.Name.Space
	}
	for _, a := range n.Attrs {
		if a.Name.Space != api.SpaceXMLNS {
			continue
		}
		if prefix != "" && a.Name.Prefix == "xmlns" && a.Name.Local == prefix {
			return a.Value
		}
		if prefix == "" && a.Name.Prefix == "" && a.Name.Local == "xmlns" {
			return a.Value
		}
	}
	return m.above(h, func(up int) string { return m.space(up, prefix) })
}

func (m model) prefix(h int, space string) string {
	n := m.node(h)
	if n.Name.Space == space && n.Name.Prefix != "" {
		return n.Name.Prefix
	}
	for _, a := range n.Attrs {
		if a.Name.Prefix == "xmlns" && a.Value == space {
			return a.Name.Local
		}
	}
	return m.above(h, func(up int) string { return m.prefix(up, space) })
}

func (m model) items(q api.Query) []int {
	switch q.Kind {
	case api.QueryTag:
		return m.tag(q.Root, q.Local)
	case api.QueryTagNS:
		return m.tagNS(q.Root, q.Space, q.Local)
	case api.QueryClass:
		return m.class(q.Root, q.Local)
	}
	return m.kids(q.Root)
}

func pick[T any](d *sample.Dice, l ...T) T { return l[d.Below(len(l))] }

func spaces() []string { return []string{"", "u", api.SpaceHTML, api.SpaceSVG, api.SpaceXMLNS} }

func tagsAsked() []string {
	return []string{"*", "a", "A", "b", "p:a", "P:a", "p:A", "xmlns:a", "", "a ", "aa", "p:"}
}

func classesAsked() []string { return []string{"x", "X", "x y", "y  x\tx", "z y", "", " "} }

// dressed is a forest that is grown, of n nodes that hang in one another as far as they can, with other names and attributes: such as can be found, and such as nearly can.
func dressed(d *sample.Dice, n int) api.Forest {
	g := sample.Grow(d, n)
	for range 8 * n {
		if h, why := forest.Apply(g, sample.Insertion(d, g)); why == api.OK {
			g = h
		}
	}
	for i, n := range g.Nodes {
		if n.Kind != api.KindElement {
			continue
		}
		name := api.Name{Space: pick(d, spaces()...), Local: pick(d, "a", "a", "A", "b", "p:a", "*")}
		if name.Space != "" {
			name.Prefix = pick(d, "", "", "p", "P", "q", "xmlns")
		}
		g.Nodes[i].Name = name
		g.Nodes[i].Attrs = dress(d)
	}
	return g
}

func dress(d *sample.Dice) []api.Attr {
	var l []api.Attr
	for range d.Below(6) {
		a := attrNS(pick(d, "", "", "", api.SpaceXMLNS, api.SpaceXMLNS, "u"), "", pick(d, "id", "class", "name", "xmlns"), pick(d, "", "i", "x y", "y x x", "X\nz", "u", api.SpaceSVG))
		if a.Name.Space != "" {
			a.Name.Prefix, a.Name.Local = pick(d, "", "xmlns", "xmlns", "p"), pick(d, "id", "class", "xmlns", "p", "q", "P")
		}
		twice := slices.ContainsFunc(l, func(b api.Attr) bool { return a.Name.Space == b.Name.Space && a.Name.Local == b.Name.Local })
		if !twice {
			l = append(l, a)
		}
	}
	return l
}

// wantFound holds what is found at a node against the model (11.1, 11.6, 11.7).
func wantFound(t *testing.T, f api.Forest, h int) (some int) {
	t.Helper()
	m := model{f}
	want := func(what string, l []int, why api.Errno, want []int) {
		wantList(t, what, l, why, want...)
		some += len(want)
	}
	for _, tag := range tagsAsked() {
		l, why := find.Tag(f, h, tag)
		want("Tag of "+tag, l, why, m.tag(h, tag))
		for _, space := range append(spaces(), "*", "v") {
			l, why := find.TagNS(f, h, space, tag)
			want("TagNS of "+space+", "+tag, l, why, m.tagNS(h, space, tag))
		}
	}
	for _, classes := range classesAsked() {
		l, why := find.Class(f, h, classes)
		want("Class of "+classes, l, why, m.class(h, classes))
	}
	for _, id := range []string{"i", "u", "x y", "", "I"} {
		got, why := find.Id(f, h, id)
		wantOne(t, "Id of "+id, got, why, m.id(h, id))
	}
	l, why := find.Kids(f, h)
	want("Kids", l, why, m.kids(h))
	return some
}

// wantHolding holds the namespaces that hold at a node against the model (11.2, 11.8).
func wantHolding(t *testing.T, f api.Forest, h int) (some int) {
	t.Helper()
	m := model{f}
	for _, prefix := range []string{"", "p", "P", "q", "xml", "xmlns", "id", "a"} {
		want := m.at(h, func(at int) string { return m.space(at, prefix) })
		got, why := find.Space(f, h, prefix)
		wantOne(t, "Space of "+prefix, got, why, want)
		some += min(len(want), 1)
	}
	none, _ := find.Space(f, h, "")
	is, why := find.Default(f, h, none)
	wantOne(t, "11.8: Default", is, why, true)
	for _, space := range append(spaces(), api.SpaceXML, "i", "x y") {
		want := m.at(h, func(at int) string { return m.prefix(at, space) })
		if space == "" {
			want = ""
		}
		got, why := find.Prefix(f, h, space)
		wantOne(t, "Prefix of "+space, got, why, want)
		some += min(len(want), 1)
		is, why := find.Default(f, h, space)
		wantOne(t, "Default of "+space, is, why, space == none)
	}
	return some
}

// Words, 11.1, 11.2, 11.6 to 11.8: all nodes of forests that are grown are asked for all sorts of things.
func TestAsModel(t *testing.T) {
	found, holding := 0, 0
	for seed := range 60 {
		d := sample.NewDice(seed)
		f := dressed(d, 2+d.Below(30))
		if why, at := forest.Check(f); why != api.OK {
			t.Fatalf("seed %d: not right at %d", seed, at)
		}
		for i := range f.Nodes {
			found += wantFound(t, f, i+1)
			holding += wantHolding(t, f, i+1)
			if t.Failed() {
				t.Fatalf("seed %d, node %d: %+v", seed, i+1, f)
			}
		}
	}
	if found < 5000 || holding < 2000 {
		t.Error("too few of a kind:", found, holding)
	}
}

// liveModel knows what a collection has been asked.
type liveModel struct {
	q     api.Query
	asked int
	has   bool
	stamp uint64
	items []int
}

// ask is what Items answers.
func (l *liveModel) ask(f api.Forest, stamp uint64) ([]int, api.Errno) {
	if l.q.Kind < api.QueryTag || l.q.Kind > api.QueryKids {
		return nil, api.ErrType
	}
	if l.has && l.stamp == stamp {
		return l.items, api.OK
	}
	l.asked++
	if why, _ := forest.Check(f); why != api.OK {
		return nil, api.ErrForest
	}
	if l.q.Root < 1 || l.q.Root > len(f.Nodes) {
		return nil, api.ErrRange
	}
	l.has, l.stamp, l.items = true, stamp, model{f}.items(l.q)
	return l.items, api.OK
}

func namedIn(f api.Forest, items []int, key string) int {
	for _, h := range items {
		if key == "" || h > len(f.Nodes) || f.Nodes[h-1].Kind != api.KindElement {
			continue
		}
		n := f.Nodes[h-1]
		if valueOf(n, "id") == key || n.Name.Space == api.SpaceHTML && valueOf(n, "name") == key {
			return h
		}
	}
	return 0
}

// 11.3, 11.4, 11.9: collections that are asked in any order, with forests that come and go, right ones and others.
func TestLiveAsModel(t *testing.T) {
	kept, refused, named := 0, 0, 0
	for seed := range 300 {
		d := sample.NewDice(seed)
		forests := []api.Forest{{}, torn(), dressed(d, 20), dressed(d, 20), dressed(d, 12)}
		q := api.Query{Kind: pick[api.QueryKind](d, 1, 1, 1, 2, 2, 3, 3, 4, 4, 0, 5), Root: pick(d, 1, 1, 2, d.Below(14)), Space: pick(d, "*", "*", api.SpaceHTML), Local: pick(d, "*", "*", "a", "x")}
		l, m := find.New(q), &liveModel{q: q}
		for range 30 {
			f, stamp := pick(d, forests...), uint64(d.Below(3))
			before := m.asked
			want, whyNot := m.ask(f, stamp)
			i, key, at := d.Below(5)-1, pick(d, "", "i", "u", "x y"), 0
			if i >= 0 && i < len(want) {
				at = want[i]
			}
			got, why := l.Items(f, stamp)
			if why != whyNot || !slices.Equal(got, want) || l.Asked() != m.asked {
				t.Fatalf("seed %d: Items of %d: %v, %d, want %v, %d; asked %d, want %d", seed, stamp, got, why, want, whyNot, l.Asked(), m.asked)
			}
			m.ask(f, stamp)
			if h, why := l.Item(f, stamp, i); h != at || why != whyNot || l.Asked() != m.asked {
				t.Fatalf("seed %d: Item of %d: %d, %d, want %d, %d", seed, stamp, h, why, at, whyNot)
			}
			m.ask(f, stamp)
			if h, why := l.Named(f, stamp, key); h != namedIn(f, want, key) || why != whyNot || l.Asked() != m.asked {
				t.Fatalf("seed %d: Named of %d: %d, %d", seed, stamp, h, why)
			}
			switch {
			case whyNot != api.OK:
				refused++
			case m.asked == before:
				kept++
			}
			named += min(namedIn(f, want, key), 1)
		}
	}
	if kept < 500 || refused < 500 || named < 100 {
		t.Error("too few of a kind:", kept, refused, named)
	}
}
