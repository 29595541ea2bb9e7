package tokens_test

import (
	"slices"
	"strings"
	"testing"

	"canopy/api"
	"canopy/forest"
	"canopy/names"
	"canopy/sample"
	"canopy/tokens"
)

// model says what the chapter's words say of an element of a right forest, as plainly as can be.
type model struct {
	f     api.Forest
	h     int
	local string
}

// place is where the attribute stands, -1 if there is none.
func (m model) place() int {
	for i, a := range m.f.Nodes[m.h-1].Attrs {
		if a.Name.Local == m.local && a.Name.Space == "" {
			return i
		}
	}
	return -1
}

func (m model) tokens() []string {
	if m.place() < 0 {
		return nil
	}
	var l []string
	word := ""
	for _, b := range []byte(m.f.Nodes[m.h-1].Attrs[m.place()].Value + " ") {
		if strings.IndexByte("\t\n\f\r ", b) < 0 {
			word += string([]byte{b})
			continue
		}
		if word != "" && !slices.Contains(l, word) {
			l = append(l, word)
		}
		word = ""
	}
	return l
}

func wrong(token string) api.Errno {
	if token == "" {
		return api.ErrSyntax
	}
	if strings.ContainsAny(token, "\t\n\f\r ") {
		return api.ErrCharacter
	}
	return api.OK
}

// refused is why the local name is.
func (m model) refused() api.Errno {
	if len(m.local) > 1024 {
		return api.ErrLong
	}
	if !names.Name(m.local) {
		return api.ErrCharacter
	}
	return api.OK
}

func (m model) stays(is bool) answer { return answer{m.f, nil, is, api.OK} }

func (m model) put(value string, is bool) answer {
	at, c := m.place(), api.Change{Kind: api.ChangeAttr, Node: m.h, Name: api.Name{Local: m.local}, Value: value, Has: true}
	g := sample.Copy(m.f)
	n := &g.Nodes[m.h-1]
	if len(value) > 4096 {
		return answer{why: api.ErrLong}
	}
	if at < 0 && len(n.Attrs) == 64 {
		return answer{why: api.ErrMany}
	}
	if at < 0 {
		n.Attrs = append(n.Attrs, api.Attr{Name: c.Name, Value: value})
	} else {
		c.Old, c.Had = n.Attrs[at].Value, true
		n.Attrs[at].Value = value
	}
	return answer{g, []api.Change{c}, is, api.OK}
}

func (m model) having(l []string, is bool) answer {
	if len(l) == 0 && m.place() < 0 {
		return m.stays(is)
	}
	return m.put(strings.Join(l, " "), is)
}

// listed is what Add and Remove have in common.
func (m model) listed(l []string, add bool) answer {
	if why := m.refused(); why != api.OK {
		return answer{why: why}
	}
	if len(l) > 4096 {
		return answer{why: api.ErrMany}
	}
	for _, token := range l {
		if why := wrong(token); why != api.OK {
			return answer{why: why}
		}
	}
	var has []string
	for _, token := range m.tokens() {
		if add || !slices.Contains(l, token) {
			has = append(has, token)
		}
	}
	for _, token := range l {
		if add && !slices.Contains(has, token) {
			has = append(has, token)
		}
	}
	return m.having(has, false)
}

func (m model) toggle(token string, force api.Force) answer {
	if why := m.refused(); why != api.OK {
		return answer{why: why}
	}
	if force != api.ForceNone && force != api.ForceOn && force != api.ForceOff {
		return answer{why: api.ErrRange}
	}
	if why := wrong(token); why != api.OK {
		return answer{why: why}
	}
	if slices.Contains(m.tokens(), token) {
		if force == api.ForceOn {
			return m.stays(true)
		}
		return m.listed([]string{token}, false)
	}
	if force == api.ForceOff {
		return m.stays(false)
	}
	x := m.listed([]string{token}, true)
	x.is = x.why == api.OK
	return x
}

func (m model) replace(token, by string) answer {
	if why := m.refused(); why != api.OK {
		return answer{why: why}
	}
	if token == "" || by == "" {
		return answer{why: api.ErrSyntax}
	}
	if wrong(token) != api.OK || wrong(by) != api.OK {
		return answer{why: api.ErrCharacter}
	}
	if !slices.Contains(m.tokens(), token) {
		return m.stays(false)
	}
	var has []string
	for _, one := range m.tokens() {
		switch {
		case one != token && one != by:
			has = append(has, one)
		case !slices.Contains(has, by):
			has = append(has, by)
		}
	}
	return m.having(has, true)
}

func (m model) set(value string) answer {
	if why := m.refused(); why != api.OK {
		return answer{why: why}
	}
	return m.put(value, false)
}

func anyOf(d *sample.Dice, some ...string) string { return some[d.Below(len(some))] }

func anyToken(d *sample.Dice) string {
	if d.Below(12) == 0 {
		return anyOf(d, "", " ", "a b", "a\t", "\n", strings.Repeat("l", 4095), strings.Repeat("l", 4097))
	}
	return anyOf(d, "a", "b", "c", "A", "é", "\xff", "\v")
}

func anyList(d *sample.Dice) []string {
	var l []string
	for range d.Below(5) {
		l = append(l, anyToken(d))
	}
	return l
}

func anyValue(d *sample.Dice) string {
	value := ""
	for range d.Below(6) {
		value += anyOf(d, "", " ", "\n", "\f\r", "a", "b", "c", " a", "A ", "é", "\xff", "\v")
	}
	return value
}

func anyLocal(d *sample.Dice) string {
	if d.Below(8) == 0 {
		return anyOf(d, "", "1", "a b", strings.Repeat("n", 1025))
	}
	return anyOf(d, "class", "Class", "p:a", "P:a", "xmlns", "a")
}

// grown is a forest that is grown, its elements being HTML ones more often, with attributes of a few names, and some of them with as many as may be.
func grown(d *sample.Dice) api.Forest {
	f := sample.Grow(d, 3+d.Below(10))
	for i, n := range f.Nodes {
		if n.Kind != api.KindElement {
			continue
		}
		if d.Below(2) == 0 {
			f.Nodes[i].Name.Space = api.SpaceHTML
		}
		f.Nodes[i].Attrs = anyAttrs(d)
		if d.Below(8) == 0 {
			f.Nodes[i].Attrs = append(full(64).Nodes[1].Attrs[len(f.Nodes[i].Attrs):], f.Nodes[i].Attrs...)
		}
	}
	return f
}

func anyAttrs(d *sample.Dice) []api.Attr {
	var l []api.Attr
	for _, name := range []api.Name{
		{Space: "u", Local: "class"}, local("class"), {Space: "u", Prefix: "p", Local: "a"}, local("p:a"), local("Class"), {Space: "v", Local: "p:a"}, local("a"),
	} {
		if d.Below(2) == 0 {
			l = append(l, api.Attr{Name: name, Value: anyValue(d)})
		}
	}
	return l
}

// models are the elements of forests that are grown, each with a name that is asked for.
func models(from, to int) func(yield func(model, *sample.Dice) bool) {
	return func(yield func(model, *sample.Dice) bool) {
		for seed := from; seed < to; seed++ {
			d := sample.NewDice(seed)
			f := grown(d)
			for i, n := range f.Nodes {
				for range 8 {
					if n.Kind == api.KindElement && !yield(model{f, i + 1, anyLocal(d)}, d) {
						return
					}
				}
			}
		}
	}
}

// 7.1 to 7.4, 7.9: what is asked and done at random is as the model says, and as the changes say.
func TestAsModel(t *testing.T) {
	done := map[api.Errno]int{}
	for m, d := range models(0, 300) {
		token, by, l, force, value := anyToken(d), anyToken(d), anyList(d), api.Force(d.Below(4)), anyValue(d)
		for what, c := range map[string]struct{ is, want answer }{
			"7.2: Add":     {answers(tokens.Add(m.f, m.h, m.local, l)), m.listed(l, true)},
			"7.2: Remove":  {answers(tokens.Remove(m.f, m.h, m.local, l)), m.listed(l, false)},
			"7.3: Toggle":  {tells(tokens.Toggle(m.f, m.h, m.local, token, force)), m.toggle(token, force)},
			"7.4: Replace": {tells(tokens.Replace(m.f, m.h, m.local, token, by)), m.replace(token, by)},
			"7.4: Set":     {answers(tokens.Set(m.f, m.h, m.local, value)), m.set(value)},
		} {
			done[c.is.why]++
			if !same(c.is, c.want) {
				t.Fatalf("%s(%d, %q, %q, %q, %q, %d): %+v, %t, %d; want %+v, %t, %d", what, m.h, m.local, token, by, l, force, c.is.changes, c.is.is, c.is.why, c.want.changes, c.want.is, c.want.why)
			}
			if all, _, why := forest.All(m.f, c.is.changes); c.is.why == api.OK && (why != api.OK || !forest.Same(all, c.is.forest)) {
				t.Fatalf("7.9: %s: error %d", what, why)
			}
		}
		wantAsked(t, m, token)
	}
	for _, why := range []api.Errno{api.OK, api.ErrLong, api.ErrCharacter, api.ErrSyntax, api.ErrRange, api.ErrMany} {
		if done[why] < 50 {
			t.Error("too few of an error:", why, done[why])
		}
	}
}

// wantAsked sees that List and Has are as the model says, and 7.6: each token once, and none is wrong.
func wantAsked(t *testing.T, m model, token string) {
	t.Helper()
	want, refused := m.tokens(), m.refused()
	if refused != api.OK {
		want = nil
	}
	l, why := tokens.List(m.f, m.h, m.local)
	is, also := tokens.Has(m.f, m.h, m.local, token)
	if !slices.Equal(l, want) || is != slices.Contains(want, token) || why != refused || also != refused {
		t.Fatalf("7.1: List(%d, %q) = %q, %d; Has(%q) = %t, %d", m.h, m.local, l, why, token, is, also)
	}
	for i, one := range l {
		if wrong(one) != api.OK || slices.Contains(l[:i], one) {
			t.Fatalf("7.6: List = %q", l)
		}
	}
}

// 7.7: all of what was added is there, none of what was removed; the others stay in their order; once more does nothing to the list.
func TestThere(t *testing.T) {
	for m, d := range models(1000, 1200) {
		l := slices.DeleteFunc(anyList(d), func(token string) bool { return wrong(token) != api.OK })
		old, _ := tokens.List(m.f, m.h, m.local)
		if g, _, why := tokens.Add(m.f, m.h, m.local, l); why == api.OK {
			now, _ := tokens.List(g, m.h, m.local)
			behind := now[len(old):]
			if !slices.Equal(now[:len(old)], old) || slices.ContainsFunc(behind, func(one string) bool { return !slices.Contains(l, one) }) {
				t.Fatalf("7.7: Add(%q) of %q: %q", l, old, now)
			}
			wantOnceMore(t, g, m, l, tokens.Add)
			for _, token := range l {
				if is, _ := tokens.Has(g, m.h, m.local, token); !is {
					t.Fatalf("7.7: Add(%q) of %q: %q", l, old, now)
				}
			}
		}
		if g, _, why := tokens.Remove(m.f, m.h, m.local, l); why == api.OK {
			now, _ := tokens.List(g, m.h, m.local)
			stay := slices.DeleteFunc(slices.Clone(old), func(one string) bool { return slices.Contains(l, one) })
			if !slices.Equal(now, stay) {
				t.Fatalf("7.7: Remove(%q) of %q: %q", l, old, now)
			}
			wantOnceMore(t, g, m, l, tokens.Remove)
		}
	}
}

func wantOnceMore(t *testing.T, f api.Forest, m model, l []string, do func(api.Forest, int, string, []string) (api.Forest, []api.Change, api.Errno)) {
	t.Helper()
	was, _ := tokens.List(f, m.h, m.local)
	g, _, why := do(f, m.h, m.local, l)
	if is, _ := tokens.List(g, m.h, m.local); why != api.OK || !slices.Equal(is, was) {
		t.Fatalf("7.7: once more: %q, error %d; want %q", is, why, was)
	}
}

// 7.8: Toggle twice leaves whether the token is there, and tells each time whether it is.
func TestToggledTwice(t *testing.T) {
	turned := 0
	for m, d := range models(2000, 2200) {
		token := anyToken(d)
		was, _ := tokens.Has(m.f, m.h, m.local, token)
		g, _, is, why := tokens.Toggle(m.f, m.h, m.local, token, api.ForceNone)
		if why != api.OK {
			continue
		}
		turned++
		now, _ := tokens.Has(g, m.h, m.local, token)
		k, _, again, why := tokens.Toggle(g, m.h, m.local, token, api.ForceNone)
		last, _ := tokens.Has(k, m.h, m.local, token)
		if is != now || now == was || why != api.OK || again != was || last != was {
			t.Fatalf("7.8: Toggle(%q): %t, %t, %t, %t, %d", token, was, is, again, last, why)
		}
	}
	if turned < 500 {
		t.Error("too few:", turned)
	}
}

// 7.9: nothing but that attribute is turned.
func TestNothingElse(t *testing.T) {
	for m, d := range models(3000, 3100) {
		for _, do := range []call{adding("a", "q"), removing("a"), toggling("a", api.ForceNone), replacing("a", "b"), setting(anyValue(d))} {
			x := do(m.f, m.h, m.local)
			if x.why != api.OK {
				continue
			}
			g := sample.Copy(x.forest)
			n := &g.Nodes[m.h-1]
			if at := m.place(); at >= 0 {
				n.Attrs[at].Value = m.f.Nodes[m.h-1].Attrs[at].Value
			} else if len(x.changes) > 0 {
				n.Attrs = n.Attrs[:len(n.Attrs)-1]
			}
			if !forest.Same(g, m.f) {
				t.Fatalf("7.9: %q of %d: something else is turned", m.local, m.h)
			}
		}
	}
}

// 7.5: forests, changes and lists that are answered are new memory, also where nothing changes; lists that are handed in stay.
func TestNewMemory(t *testing.T) {
	for name, do := range map[string]call{
		"Add": adding("c"), "Add of nothing": adding(), "Remove": removing("a"), "Toggle": toggling("a", api.ForceNone), "Toggle on": toggling("c", api.ForceOn),
		"Toggle, nothing": toggling("a", api.ForceOn), "Replace": replacing("a", "b"), "Replace, nothing": replacing("c", "b"), "Set": setting("v"),
	} {
		for _, attribute := range []string{"class", "other", "p:a"} {
			sharing := sample.Sharing(hall(), func(f api.Forest) (api.Forest, []api.Change) {
				x := do(f, 2, attribute)
				return x.forest, x.changes
			})
			if x := do(hall(), 2, attribute); sharing != "" || x.why != api.OK {
				t.Errorf("%s of %s: %s, error %d", name, attribute, sharing, x.why)
			}
		}
	}
	for _, do := range []func(api.Forest, int, string, []string) (api.Forest, []api.Change, api.Errno){tokens.Add, tokens.Remove} {
		list := slices.Grow([]string{"c", "b", "c", "d"}, 8)
		g, l, _ := do(hall(), 2, "class", list)
		was, changes := sample.Copy(g), sample.CopyChanges(l)
		if !slices.Equal(list, []string{"c", "b", "c", "d"}) || strings.Join(list[4:cap(list)], "") != "" {
			t.Error("the list that was handed in is changed:", list)
		}
		sample.Fill(list, "spoilt")
		if !forest.Same(g, was) || !sample.SameChanges(l, changes) {
			t.Error("the answer changes with the list that was handed in")
		}
	}
	f := sample.Roomy(hall())
	l, _ := tokens.List(f, 2, "class")
	more, _ := tokens.List(f, 2, "class")
	sample.Fill(more, "spoilt")
	if !slices.Equal(l, []string{"a", "b"}) || sample.Spoilt(f) || !forest.Same(f, hall()) {
		t.Error("List:", l)
	}
}
