package attrs_test

import (
	"slices"
	"strings"
	"testing"

	"canopy/api"
	"canopy/attrs"
	"canopy/forest"
	"canopy/names"
	"canopy/sample"
)

// model says what the chapter's words say of an element of a right forest, as plainly as can be.
type model struct {
	f api.Forest
	h int
}

func (m model) list() []api.Attr { return m.f.Nodes[m.h-1].Attrs }

func (m model) html() bool {
	n := m.f.Nodes[m.h-1]
	return n.Name.Space == api.SpaceHTML && m.f.Nodes[n.Doc-1].HTML
}

func (m model) asked(qualified string) string {
	if !m.html() {
		return qualified
	}
	for i := range 26 {
		qualified = strings.ReplaceAll(qualified, string(rune('A'+i)), string(rune('a'+i)))
	}
	return qualified
}

// place is where the first attribute with a qualified name stands, -1 if there is none.
func (m model) place(qualified string) int {
	for i, a := range m.list() {
		text := a.Name.Local
		if a.Name.Prefix != "" {
			text = a.Name.Prefix + ":" + text
		}
		if text == m.asked(qualified) {
			return i
		}
	}
	return -1
}

func (m model) placeNS(space, local string) int {
	for i, a := range m.list() {
		if a.Name.Space == space && a.Name.Local == local {
			return i
		}
	}
	return -1
}

// answer is an answer of changes.
type answer struct {
	forest  api.Forest
	changes []api.Change
	why     api.Errno
}

func answers(g api.Forest, l []api.Change, why api.Errno) answer { return answer{g, l, why} }

func same(a, b answer) bool {
	return a.why == b.why && forest.Same(a.forest, b.forest) && sample.SameChanges(a.changes, b.changes)
}

// turned has another list of attributes.
func (m model) turned(l []api.Attr, c api.Change) answer {
	g := sample.Copy(m.f)
	g.Nodes[m.h-1].Attrs = l
	c.Kind, c.Node = api.ChangeAttr, m.h
	return answer{g, []api.Change{c}, api.OK}
}

func (m model) put(at int, name api.Name, value string) answer {
	if at >= 0 {
		l := slices.Clone(m.list())
		c := api.Change{Name: l[at].Name, Old: l[at].Value, Value: value, Had: true, Has: true}
		l[at].Value = value
		return m.turned(l, c)
	}
	if len(m.list()) >= 64 {
		return answer{why: api.ErrMany}
	}
	return m.turned(slices.Concat(m.list(), []api.Attr{{Name: name, Value: value}}), api.Change{Name: name, Value: value, Has: true})
}

func (m model) set(qualified, value string) answer {
	if len(qualified) > 1024 || len(value) > 4096 {
		return answer{why: api.ErrLong}
	}
	if !names.Name(qualified) {
		return answer{why: api.ErrCharacter}
	}
	return m.put(m.place(qualified), api.Name{Local: m.asked(qualified)}, value)
}

func (m model) setNS(space, qualified, value string) answer {
	if len(value) > 4096 {
		return answer{why: api.ErrLong}
	}
	n, why := names.Extract(space, qualified)
	if why != api.OK {
		return answer{why: why}
	}
	return m.put(m.placeNS(space, n.Local), n, value)
}

func (m model) remove(at int) answer {
	if at < 0 {
		return answer{forest: m.f}
	}
	a := m.list()[at]
	return m.turned(slices.Concat(m.list()[:at], m.list()[at+1:]), api.Change{Name: a.Name, Old: a.Value, Had: true})
}

func (m model) toggle(qualified string, force api.Force) (answer, bool) {
	if force > 2 {
		return answer{why: api.ErrRange}, false
	}
	if x := m.set(qualified, ""); x.why == api.ErrLong || x.why == api.ErrCharacter {
		return x, false
	}
	at := m.place(qualified)
	switch {
	case at >= 0 && force == api.ForceOn:
		return answer{forest: m.f}, true
	case at >= 0:
		return m.remove(at), false
	case force == api.ForceOff:
		return answer{forest: m.f}, false
	}
	x := m.set(qualified, "")
	return x, x.why == api.OK
}

// anyOf is one of some texts.
func anyOf(d *sample.Dice, some ...string) string { return some[d.Below(len(some))] }

func anyQualified(d *sample.Dice) string {
	return anyOf(d, "a", "A", "b", "p:a", "P:a", "p:A", "q:b", "a:b:c", "é", "É", "xml:a", "xmlns", ":", "", "1", "\xffA", strings.Repeat("n", 1025))
}

func anySpace(d *sample.Dice) string { return anyOf(d, "", "", "u", "v", api.SpaceXML, api.SpaceXMLNS) }

func anyValue(d *sample.Dice) string {
	if d.Below(40) == 0 {
		return strings.Repeat("v", 4097)
	}
	return anyOf(d, "", "v", "w")
}

// grown is a forest that is grown, its elements being HTML ones more often, with attributes of a few names, so that several have one qualified name.
func grown(d *sample.Dice) api.Forest {
	f := sample.Grow(d, 3+d.Below(10))
	for i, n := range f.Nodes {
		if n.Kind != api.KindElement {
			continue
		}
		if d.Below(2) == 0 {
			f.Nodes[i].Name.Space = api.SpaceHTML
		}
		m := model{f, i + 1}
		for range d.Below(8) {
			name := api.Name{Space: anySpace(d), Local: anyOf(d, "a", "A", "b", "p:a", "\xffa", "é")}
			if name.Space != "" {
				name.Prefix = anyOf(d, "", "p", "P")
			}
			if m.placeNS(name.Space, name.Local) < 0 {
				f.Nodes[i].Attrs = append(f.Nodes[i].Attrs, api.Attr{Name: name, Value: anyOf(d, "", "v")})
			}
		}
	}
	return f
}

// P6.2 to P6.5, P6.8: what is asked and done at random is as the model says.
func TestAsModel(t *testing.T) {
	done := map[api.Errno]int{}
	for seed := range 400 {
		d := sample.NewDice(seed)
		f := grown(d)
		for i, n := range f.Nodes {
			if n.Kind != api.KindElement {
				continue
			}
			m := model{f, i + 1}
			for range 12 {
				wantAsked(t, m, anyQualified(d), anySpace(d))
				wantDone(t, m, d, done)
			}
		}
		if t.Failed() {
			t.Fatalf("seed %d: %+v", seed, f)
		}
	}
	for _, why := range []api.Errno{api.OK, api.ErrLong, api.ErrCharacter, api.ErrNamespace, api.ErrRange} {
		if done[why] < 50 {
			t.Error("too few of an error:", why, done[why])
		}
	}
}

func (m model) value(at int) (string, bool) {
	if at < 0 {
		return "", false
	}
	return m.list()[at].Value, true
}

func wantAsked(t *testing.T, m model, name, space string) {
	t.Helper()
	want, there := m.value(m.place(name))
	if v, is, why := attrs.Get(m.f, m.h, name); v != want || is != there || why != api.OK {
		t.Errorf("P6.2: Get(%d, %q) = %q, %t, %d", m.h, name, v, is, why)
	}
	want, there = m.value(m.placeNS(space, name))
	if v, is, why := attrs.GetNS(m.f, m.h, space, name); v != want || is != there || why != api.OK {
		t.Errorf("P6.2: GetNS(%d, %q, %q) = %q, %t, %d", m.h, space, name, v, is, why)
	}
	want, _ = m.value(m.placeNS("", name))
	if v, why := attrs.Reflect(m.f, m.h, name); v != want || why != api.OK {
		t.Errorf("P6.2: Reflect(%d, %q) = %q, %d", m.h, name, v, why)
	}
	l, why := attrs.Names(m.f, m.h)
	if len(l) != len(m.list()) || why != api.OK {
		t.Errorf("P6.2: Names(%d) = %q, %d", m.h, l, why)
	}
	for i, a := range m.list() {
		if l[i] != names.Qualified(a.Name) {
			t.Errorf("P6.2: Names(%d) = %q", m.h, l)
		}
	}
}

func wantDone(t *testing.T, m model, d *sample.Dice, done map[api.Errno]int) {
	t.Helper()
	name, space, value, force := anyQualified(d), anySpace(d), anyValue(d), api.Force(d.Below(4))
	g, l, is, why := attrs.Toggle(m.f, m.h, name, force)
	toggled, wantIs := m.toggle(name, force)
	if is != wantIs {
		t.Errorf("P6.5: Toggle(%d, %q, %d): %t", m.h, name, force, is)
	}
	for what, c := range map[string]struct{ is, want answer }{
		"P6.3: Set":      {answers(attrs.Set(m.f, m.h, name, value)), m.set(name, value)},
		"P6.3: SetNS":    {answers(attrs.SetNS(m.f, m.h, space, name, value)), m.setNS(space, name, value)},
		"P6.4: Remove":   {answers(attrs.Remove(m.f, m.h, name)), m.remove(m.place(name))},
		"P6.4: RemoveNS": {answers(attrs.RemoveNS(m.f, m.h, space, name)), m.remove(m.placeNS(space, name))},
		"P6.5: Toggle":   {answer{g, l, why}, toggled},
	} {
		done[c.is.why]++
		if !same(c.is, c.want) {
			t.Errorf("%s(%d, %q, %q, %q): %+v, %d; want %+v, %d", what, m.h, space, name, value, c.is.changes, c.is.why, c.want.changes, c.want.why)
		}
		if c.is.why != api.OK {
			continue
		}
		if all, _, why := forest.All(m.f, c.is.changes); why != api.OK || !forest.Same(all, c.is.forest) {
			t.Errorf("P6.8: %s: error %d", what, why)
		}
	}
}

// P6.7: behind Set Get has the value, behind Remove the attribute is gone; all others are as they were, in order, and so are other nodes.
func TestKept(t *testing.T) {
	for seed := range 300 {
		d := sample.NewDice(seed + 1000)
		f := grown(d)
		for i, n := range f.Nodes {
			if n.Kind != api.KindElement {
				continue
			}
			name, value := anyQualified(d), anyOf(d, "", "v", "w")
			if g, _, why := attrs.Set(f, i+1, name, value); why == api.OK {
				if v, is, _ := attrs.Get(g, i+1, name); v != value || !is {
					t.Errorf("P6.7: Get(%q) behind Set = %q, %t", name, v, is)
				}
				wantOthers(t, f, g, i+1)
			}
			_, had, _ := attrs.Get(f, i+1, name)
			g, l, why := attrs.Remove(f, i+1, name)
			if why != api.OK || len(l) != count(had) {
				t.Errorf("P6.7: Remove(%q): %+v, %d", name, l, why)
			}
			if had {
				if _, is, _ := attrs.GetNS(g, i+1, l[0].Name.Space, l[0].Name.Local); is {
					t.Errorf("P6.7: %q is there behind Remove", name)
				}
			}
			wantOthers(t, f, g, i+1)
		}
	}
}

func count(is bool) int {
	if is {
		return 1
	}
	return 0
}

// wantOthers sees that of h at most one attribute, and of other nodes nothing is turned.
func wantOthers(t *testing.T, f, g api.Forest, h int) {
	t.Helper()
	was, is := f.Nodes[h-1].Attrs, g.Nodes[h-1].Attrs
	ahead := 0
	for ahead < min(len(was), len(is)) && was[ahead] == is[ahead] {
		ahead++
	}
	behindWas, behindIs := was[min(ahead+1, len(was)):], is[min(ahead+1, len(is)):]
	fits := slices.Equal(behindWas, behindIs)
	if len(is) < len(was) {
		fits = slices.Equal(behindWas, is[ahead:])
	}
	if !fits {
		t.Errorf("P6.7: %v becomes %v", was, is)
	}
	x := sample.Copy(g)
	x.Nodes[h-1].Attrs = was
	if !forest.Same(x, f) {
		t.Errorf("P6.7: something else is turned than attributes of %d", h)
	}
}

// P6.9: of an HTML element in an HTML document the case of A to Z is no matter; of others it is.
func TestCase(t *testing.T) {
	for _, c := range []struct{ a, b string }{{"id", "ID"}, {"p:A", "P:a"}, {"New", "neW"}, {"éX", "éx"}} {
		for h := 2; h <= 5; h++ {
			v, is, _ := attrs.Get(hall(), h, c.a)
			w, also, _ := attrs.Get(hall(), h, c.b)
			equal := v == w && is == also &&
				same(answers(attrs.Set(hall(), h, c.a, "n")), answers(attrs.Set(hall(), h, c.b, "n"))) &&
				same(answers(attrs.Remove(hall(), h, c.a)), answers(attrs.Remove(hall(), h, c.b)))
			for force := api.ForceNone; force < api.ForceCount; force++ {
				g, l, is, why := attrs.Toggle(hall(), h, c.a, force)
				k, m, also, _ := attrs.Toggle(hall(), h, c.b, force)
				equal = equal && is == also && same(answer{g, l, why}, answer{k, m, why})
			}
			if equal != (h == 2) {
				t.Errorf("P6.9: %s and %s of %d: %t", c.a, c.b, h, equal)
			}
		}
	}
	if same(answers(attrs.Set(hall(), 2, "É", "n")), answers(attrs.Set(hall(), 2, "é", "n"))) {
		t.Error("P6.9: É is none of A to Z")
	}
}

// P6.10: Toggle twice leaves whether there is one; with force twice is as once.
func TestToggledTwice(t *testing.T) {
	for _, name := range []string{"LAST", "new", "a", "Last"} {
		for h := 2; h <= 5; h++ {
			_, was, _ := attrs.Get(hall(), h, name)
			once, _, is, why := attrs.Toggle(hall(), h, name, api.ForceNone)
			twice, _, again, why2 := attrs.Toggle(once, h, name, api.ForceNone)
			_, there, _ := attrs.Get(twice, h, name)
			if is == was || again != was || there != was || why != api.OK || why2 != api.OK {
				t.Errorf("P6.10: Toggle(%d, %q): was %t, is %t, %t", h, name, was, is, again)
			}
			for _, force := range []api.Force{api.ForceOn, api.ForceOff} {
				once, _, is, _ := attrs.Toggle(hall(), h, name, force)
				twice, l, again, _ := attrs.Toggle(once, h, name, force)
				if is != again || len(l) != 0 || !forest.Same(once, twice) || is != (force == api.ForceOn) {
					t.Errorf("P6.10: Toggle(%d, %q) by %d: %t, %t", h, name, force, is, again)
				}
			}
		}
	}
}

// P6.6: forests and changes that are answered are new memory, also where nothing changes.
func TestNewMemory(t *testing.T) {
	but := func(g api.Forest, l []api.Change, _ api.Errno) (api.Forest, []api.Change) { return g, l }
	toggled := func(f api.Forest, name string, force api.Force) (api.Forest, []api.Change) {
		g, l, _, _ := attrs.Toggle(f, 2, name, force)
		return g, l
	}
	for name, call := range map[string]func(api.Forest) (api.Forest, []api.Change){
		"Set":              func(f api.Forest) (api.Forest, []api.Change) { return but(attrs.Set(f, 2, "id", "n")) },
		"Set, one more":    func(f api.Forest) (api.Forest, []api.Change) { return but(attrs.Set(f, 2, "new", "n")) },
		"SetNS":            func(f api.Forest) (api.Forest, []api.Change) { return but(attrs.SetNS(f, 2, "u", "a", "n")) },
		"SetNS, one more":  func(f api.Forest) (api.Forest, []api.Change) { return but(attrs.SetNS(f, 2, "w", "a", "n")) },
		"Remove":           func(f api.Forest) (api.Forest, []api.Change) { return but(attrs.Remove(f, 2, "id")) },
		"Remove of none":   func(f api.Forest) (api.Forest, []api.Change) { return but(attrs.Remove(f, 2, "new")) },
		"RemoveNS":         func(f api.Forest) (api.Forest, []api.Change) { return but(attrs.RemoveNS(f, 2, "u", "a")) },
		"RemoveNS of none": func(f api.Forest) (api.Forest, []api.Change) { return but(attrs.RemoveNS(f, 2, "w", "a")) },
		"Toggle":           func(f api.Forest) (api.Forest, []api.Change) { return toggled(f, "id", api.ForceNone) },
		"Toggle, one more": func(f api.Forest) (api.Forest, []api.Change) { return toggled(f, "new", api.ForceNone) },
		"Toggle, nothing":  func(f api.Forest) (api.Forest, []api.Change) { return toggled(f, "id", api.ForceOn) },
	} {
		if g, _ := call(hall()); len(g.Nodes) != len(hall().Nodes) {
			t.Fatal(name, "is refused")
		}
		if s := sample.Sharing(hall(), call); s != "" {
			t.Errorf("%s: %s", name, s)
		}
	}
	f := sample.Roomy(hall())
	l, _ := attrs.Names(f, 2)
	more, _ := attrs.Names(f, 2)
	sample.Fill(more, "spoilt")
	if slices.Contains(l, "spoilt") || sample.Spoilt(f) || !forest.Same(f, hall()) {
		t.Error("Names:", l)
	}
}
