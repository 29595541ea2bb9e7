package attrs_test

import (
	"math"
	"slices"
	"strconv"
	"strings"
	"testing"

	"canopy/api"
	"canopy/attrs"
	"canopy/forest"
	"canopy/sample"
)

func local(s string) api.Name { return api.Name{Local: s} }

// some are attributes, two of which have the qualified name p:a, and two id.
func some() []api.Attr {
	return []api.Attr{
		{Name: local("id"), Value: "x"},
		{Name: api.Name{Space: "u", Prefix: "p", Local: "a"}, Value: "1"},
		{Name: api.Name{Space: "v", Local: "id"}, Value: "y"},
		{Name: local("p:a"), Value: "2"},
		{Name: local("Id"), Value: "z"},
		{Name: local("last")},
	}
}

// hall has every kind of node. 2 is an HTML element in an HTML document; 3 is another one there, 4 an HTML one elsewhere, 5 neither.
func hall() api.Forest {
	return api.Forest{Nodes: []api.Node{
		{Kind: api.KindDocument, Kids: []int{2}, Doc: 1, HTML: true},
		{Kind: api.KindElement, Name: api.Name{Space: api.SpaceHTML, Local: "div"}, Attrs: some(), Parent: 1, Kids: []int{3, 6, 7, 8}, Doc: 1, Shadow: 9},
		{Kind: api.KindElement, Name: api.Name{Space: api.SpaceSVG, Local: "g"}, Attrs: some(), Parent: 2, Doc: 1},
		{Kind: api.KindElement, Name: api.Name{Space: api.SpaceHTML, Local: "div"}, Attrs: some(), Parent: 12, Doc: 12},
		{Kind: api.KindElement, Name: local("e"), Doc: 12},
		{Kind: api.KindText, Data: api.Units{1}, Parent: 2, Doc: 1},
		{Kind: api.KindCData, Parent: 2, Doc: 1},
		{Kind: api.KindInstruction, Name: local("go"), Parent: 2, Doc: 1},
		{Kind: api.KindShadow, Kids: []int{10}, Doc: 1, Host: 2, Mode: api.ShadowOpen},
		{Kind: api.KindComment, Parent: 9, Doc: 1},
		{Kind: api.KindFragment, Doc: 1},
		{Kind: api.KindDocument, Kids: []int{13, 4}, Doc: 12},
		{Kind: api.KindDoctype, Name: local("d"), Parent: 12, Doc: 12},
	}}
}

// full is an HTML document with an HTML element that has n attributes: a0, a1 and so on.
func full(n int) api.Forest {
	f := forest.New(true)
	e := api.Node{Kind: api.KindElement, Name: api.Name{Space: api.SpaceHTML, Local: "div"}, Doc: 1}
	for i := range n {
		e.Attrs = append(e.Attrs, api.Attr{Name: local("a" + strconv.Itoa(i)), Value: "v"})
	}
	f.Nodes = append(f.Nodes, e)
	return f
}

// told are the answers of a call: all but the error must be zero beside one.
type told struct {
	zero bool
	why  api.Errno
}

// calls are all calls, by a name, which is a local one and a qualified one.
func calls() map[string]func(f api.Forest, h int, name string) told {
	value := func(v string, is bool, why api.Errno) told { return told{v == "" && !is, why} }
	changes := func(g api.Forest, l []api.Change, why api.Errno) told { return told{g.Nodes == nil && l == nil, why} }
	toggled := func(g api.Forest, l []api.Change, is bool, why api.Errno) told {
		return told{g.Nodes == nil && l == nil && !is, why}
	}
	return map[string]func(f api.Forest, h int, name string) told{
		"Get":   func(f api.Forest, h int, name string) told { return value(attrs.Get(f, h, name)) },
		"GetNS": func(f api.Forest, h int, name string) told { return value(attrs.GetNS(f, h, "", name)) },
		"Names": func(f api.Forest, h int, _ string) told {
			l, why := attrs.Names(f, h)
			return told{l == nil, why}
		},
		"Reflect": func(f api.Forest, h int, name string) told {
			v, why := attrs.Reflect(f, h, name)
			return told{v == "", why}
		},
		"Set":      func(f api.Forest, h int, name string) told { return changes(attrs.Set(f, h, name, "v")) },
		"SetNS":    func(f api.Forest, h int, name string) told { return changes(attrs.SetNS(f, h, "", name, "v")) },
		"Remove":   func(f api.Forest, h int, name string) told { return changes(attrs.Remove(f, h, name)) },
		"RemoveNS": func(f api.Forest, h int, name string) told { return changes(attrs.RemoveNS(f, h, "", name)) },
		"Toggle":   func(f api.Forest, h int, name string) told { return toggled(attrs.Toggle(f, h, name, api.ForceNone)) },
	}
}

// P6.1: ErrForest, then ErrRange, then ErrType, ahead of all that a name can be; each alone.
func TestErrorsAhead(t *testing.T) {
	bad := hall()
	bad.Nodes[2].Attrs = append(bad.Nodes[2].Attrs, bad.Nodes[2].Attrs[0])
	many := full(1)
	many.Nodes = append(many.Nodes, make([]api.Node, api.MaxNodes)...)
	for name, call := range calls() {
		for _, text := range []string{"id", "1", strings.Repeat("a", api.MaxName+1)} {
			for _, f := range []api.Forest{bad, many, full(api.MaxAttrs + 1)} {
				for _, h := range []int{2, 1, 0, -1, math.MaxInt} {
					if x := call(f, h, text); x != (told{true, api.ErrForest}) {
						t.Errorf("%s(%d) of a forest that is not right: %v", name, h, x)
					}
				}
			}
			for _, h := range []int{0, -1, 14, math.MaxInt, math.MinInt} {
				if x := call(hall(), h, text); x != (told{true, api.ErrRange}) {
					t.Errorf("%s(%d): %v", name, h, x)
				}
				if x := call(api.Forest{}, h, text); x != (told{true, api.ErrRange}) {
					t.Errorf("%s(%d) of no node: %v", name, h, x)
				}
			}
			for i, n := range hall().Nodes {
				if x := call(hall(), i+1, text); n.Kind != api.KindElement && x != (told{true, api.ErrType}) {
					t.Errorf("%s(%d): %v", name, i+1, x)
				}
			}
		}
		if x := call(hall(), 2, "id"); x.why != api.OK {
			t.Errorf("%s: error %d", name, x.why)
		}
	}
}

// Words, P6.2: the first attribute that has the name, as the element is asked by it.
func TestGet(t *testing.T) {
	for _, c := range []struct {
		h         int
		qualified string
		value     string
		is        bool
	}{
		{2, "id", "x", true}, {2, "ID", "x", true}, {2, "Id", "x", true}, {2, "p:a", "1", true}, {2, "P:A", "1", true},
		{2, "last", "", true}, {2, "a", "", false}, {2, "", "", false}, {2, "i d", "", false}, {2, "ıd", "", false},
		{3, "id", "x", true}, {3, "ID", "", false}, {3, "Id", "z", true}, {3, "P:a", "", false},
		{4, "id", "x", true}, {4, "ID", "", false}, {4, "Id", "z", true},
		{5, "id", "", false}, {2, strings.Repeat("a", api.MaxName+1), "", false},
	} {
		if v, is, why := attrs.Get(hall(), c.h, c.qualified); v != c.value || is != c.is || why != api.OK {
			t.Errorf("Get(%d, %q) = %q, %t, %d", c.h, c.qualified, v, is, why)
		}
	}
}

// Words: A to Z are turned, and nothing else, not even bytes that are of no rune.
func TestSmall(t *testing.T) {
	for qualified, name := range map[string]string{
		"AZ": "az", "@[`{": "@[`{", "ÀÉ": "ÀÉ", "\u212a": "\u212a", "\xffA\xc3": "\xffa\xc3", "aÀB": "aÀb",
	} {
		f := full(0)
		f.Nodes[1].Attrs = []api.Attr{{Name: local(name), Value: "v"}}
		if v, is, why := attrs.Get(f, 2, qualified); v != "v" || !is || why != api.OK {
			t.Errorf("Get(%q) = %q, %t, %d", qualified, v, is, why)
		}
	}
}

// P6.2: by Space and Local, whatever the prefix and the case; and all names, in order.
func TestGetNS(t *testing.T) {
	for _, c := range []struct {
		space, local string
		value        string
		is           bool
	}{
		{"", "id", "x", true}, {"v", "id", "y", true}, {"u", "a", "1", true}, {"u", "p:a", "", false}, {"", "p:a", "2", true},
		{"", "a", "", false}, {"", "ID", "", false}, {"", "Id", "z", true}, {"U", "a", "", false}, {"", "", "", false},
		{"", "last", "", true}, {"v", "last", "", false}, {strings.Repeat("u", api.MaxName+1), "a", "", false},
	} {
		for h := 2; h <= 4; h++ {
			if v, is, why := attrs.GetNS(hall(), h, c.space, c.local); v != c.value || is != c.is || why != api.OK {
				t.Errorf("GetNS(%d, %q, %q) = %q, %t, %d", h, c.space, c.local, v, is, why)
			}
		}
		if v, why := attrs.Reflect(hall(), 2, c.local); c.space == "" && (v != c.value || why != api.OK) {
			t.Errorf("Reflect(%q) = %q, %d", c.local, v, why)
		}
	}
	want := []string{"id", "p:a", "id", "p:a", "Id", "last"}
	if l, why := attrs.Names(hall(), 2); !slices.Equal(l, want) || why != api.OK {
		t.Error("Names:", l, why)
	}
	if l, why := attrs.Names(hall(), 5); len(l) != 0 || why != api.OK {
		t.Error("Names of none:", l, why)
	}
}

// wantChange sees that a call has made one change, and the attributes as they must be.
func wantChange(t *testing.T, what string, f api.Forest, c api.Change, l []api.Attr) func(api.Forest, []api.Change, api.Errno) {
	t.Helper()
	return func(g api.Forest, got []api.Change, why api.Errno) {
		t.Helper()
		c.Kind = api.ChangeAttr
		turned := sample.Copy(f)
		turned.Nodes[c.Node-1].Attrs = l
		if why != api.OK || !sample.SameChanges(got, []api.Change{c}) || !forest.Same(g, turned) {
			t.Errorf("%s: %+v, error %d; want %+v", what, got, why, c)
		}
	}
}

// wantNothing sees that a call has changed nothing.
func wantNothing(t *testing.T, what string, f api.Forest) func(api.Forest, []api.Change, api.Errno) {
	t.Helper()
	return func(g api.Forest, l []api.Change, why api.Errno) {
		t.Helper()
		if why != api.OK || len(l) != 0 || !forest.Same(g, f) {
			t.Errorf("%s: %+v, error %d", what, l, why)
		}
	}
}

// wantError sees that a call has answered an error and nothing else.
func wantError(t *testing.T, what string, want api.Errno) func(api.Forest, []api.Change, api.Errno) {
	t.Helper()
	return func(g api.Forest, l []api.Change, why api.Errno) {
		t.Helper()
		if why != want || g.Nodes != nil || l != nil {
			t.Errorf("%s: error %d; want %d", what, why, want)
		}
	}
}

// with has another value at a place of some.
func with(at int, value string) []api.Attr {
	l := some()
	l[at].Value = value
	return l
}

// P6.3: the first one that has the name keeps its place and its name; a further one stands behind all others.
func TestSet(t *testing.T) {
	f := hall()
	wantChange(t, "Set of id", f, api.Change{Node: 2, Name: local("id"), Old: "x", Value: "n", Had: true, Has: true}, with(0, "n"))(attrs.Set(f, 2, "id", "n"))
	wantChange(t, "Set of Id", f, api.Change{Node: 2, Name: local("id"), Old: "x", Value: "n", Had: true, Has: true}, with(0, "n"))(attrs.Set(f, 2, "Id", "n"))
	wantChange(t, "Set of Id elsewhere", f, api.Change{Node: 3, Name: local("Id"), Old: "z", Value: "n", Had: true, Has: true}, with(4, "n"))(attrs.Set(f, 3, "Id", "n"))
	wantChange(t, "Set of the first p:a", f, api.Change{Node: 4, Name: api.Name{Space: "u", Prefix: "p", Local: "a"}, Old: "1", Had: true, Has: true}, with(1, ""))(attrs.Set(f, 4, "p:a", ""))
	wantChange(t, "Set to the same", f, api.Change{Node: 2, Name: local("id"), Old: "x", Value: "x", Had: true, Has: true}, some())(attrs.Set(f, 2, "id", "x"))
	more := func(name string) []api.Attr { return append(some(), api.Attr{Name: local(name), Value: "n"}) }
	wantChange(t, "Set of NEW", f, api.Change{Node: 2, Name: local("new"), Value: "n", Has: true}, more("new"))(attrs.Set(f, 2, "NEW", "n"))
	wantChange(t, "Set of NEW elsewhere", f, api.Change{Node: 4, Name: local("NEW"), Value: "n", Has: true}, more("NEW"))(attrs.Set(f, 4, "NEW", "n"))
	wantChange(t, "Set of a:b", f, api.Change{Node: 3, Name: local("a:b"), Value: "n", Has: true}, more("a:b"))(attrs.Set(f, 3, "a:b", "n"))
	wantChange(t, "Set of :", f, api.Change{Node: 3, Name: local(":"), Value: "n", Has: true}, more(":"))(attrs.Set(f, 3, ":", "n"))
	wantChange(t, "Set of a local name that has a space", f, api.Change{Node: 2, Name: local("a"), Value: "n", Has: true}, more("a"))(attrs.Set(f, 2, "a", "n"))
}

// P6.3: names and values that are too long, and names that are none; ErrLong goes ahead.
func TestSetWrong(t *testing.T) {
	longName, longValue := strings.Repeat("a", api.MaxName), strings.Repeat("é", api.MaxValue/2)
	f := hall()
	more := append(some(), api.Attr{Name: local(longName), Value: longValue})
	wantChange(t, "as long as may be", f, api.Change{Node: 2, Name: local(longName), Value: longValue, Has: true}, more)(attrs.Set(f, 2, longName, longValue))
	wantError(t, "a name too long", api.ErrLong)(attrs.Set(f, 2, longName+"a", "v"))
	wantError(t, "a value too long", api.ErrLong)(attrs.Set(f, 2, "id", longValue+"a"))
	wantError(t, "a name too long that is none", api.ErrLong)(attrs.Set(f, 2, longName+" ", "v"))
	wantError(t, "a value too long for no name", api.ErrLong)(attrs.Set(f, 2, "1", longValue+"a"))
	for _, s := range []string{"", "1", "a b", "-", " a", "a ", "\xff", "a\xff", "<", "a=b"} {
		wantError(t, "Set of "+strconv.Quote(s), api.ErrCharacter)(attrs.Set(f, 2, s, "v"))
		if _, _, is, why := attrs.Toggle(f, 2, s, api.ForceNone); is || why != api.ErrCharacter {
			t.Errorf("Toggle of %q: %t, %d", s, is, why)
		}
	}
}

// P6.3: by Space and Local; the name that there is stays, a further one has its prefix.
func TestSetNS(t *testing.T) {
	f := hall()
	a := api.Name{Space: "u", Prefix: "p", Local: "a"}
	for _, qualified := range []string{"p:a", "q:a", "a"} {
		wantChange(t, "SetNS of "+qualified, f, api.Change{Node: 2, Name: a, Old: "1", Value: "n", Had: true, Has: true}, with(1, "n"))(attrs.SetNS(f, 2, "u", qualified, "n"))
	}
	wantChange(t, "SetNS to the same", f, api.Change{Node: 2, Name: a, Old: "1", Value: "1", Had: true, Has: true}, some())(attrs.SetNS(f, 2, "u", "a", "1"))
	wantChange(t, "SetNS without a space", f, api.Change{Node: 2, Name: local("id"), Old: "x", Had: true, Has: true}, with(0, ""))(attrs.SetNS(f, 2, "", "id", ""))
	for _, n := range []api.Name{{Space: "w", Prefix: "p", Local: "a"}, {Space: "u", Local: "A"}, {Local: "ID"}, {Space: api.SpaceXMLNS, Prefix: "xmlns", Local: "x"}} {
		qualified := n.Local
		if n.Prefix != "" {
			qualified = n.Prefix + ":" + n.Local
		}
		more := append(some(), api.Attr{Name: n, Value: "n"})
		wantChange(t, "SetNS of "+qualified, f, api.Change{Node: 2, Name: n, Value: "n", Has: true}, more)(attrs.SetNS(f, 2, n.Space, qualified, "n"))
	}
	g, _, why := attrs.SetNS(full(0), 2, "", "ID", "n")
	if _, is, _ := attrs.Get(g, 2, "ID"); is || why != api.OK {
		t.Error("ID is found by Get, which asks for id")
	}
}

// P6.3: a value that is too long goes ahead of names.Extract's errors.
func TestSetNSWrong(t *testing.T) {
	long := strings.Repeat("a", api.MaxName)
	value := strings.Repeat("v", api.MaxValue)
	f := hall()
	more := append(some(), api.Attr{Name: api.Name{Space: long, Local: long}, Value: value})
	wantChange(t, "as long as may be", f, api.Change{Node: 2, Name: api.Name{Space: long, Local: long}, Value: value, Has: true}, more)(attrs.SetNS(f, 2, long, long, value))
	wantError(t, "a value too long", api.ErrLong)(attrs.SetNS(f, 2, "", "a", value+"v"))
	wantError(t, "a value too long for no name", api.ErrLong)(attrs.SetNS(f, 2, "", "1", value+"v"))
	wantError(t, "a space too long", api.ErrLong)(attrs.SetNS(f, 2, long+"a", "a", ""))
	wantError(t, "a name too long", api.ErrLong)(attrs.SetNS(f, 2, "", long+"a", ""))
	wantError(t, "a space too long for no name", api.ErrLong)(attrs.SetNS(f, 2, long+"a", "1", ""))
	for _, s := range []string{"", "1", ":", "a:", ":a", "a:b:c", "a b", "\xff"} {
		wantError(t, "SetNS of "+strconv.Quote(s), api.ErrCharacter)(attrs.SetNS(f, 2, "u", s, ""))
	}
	wantError(t, "a prefix without a space", api.ErrNamespace)(attrs.SetNS(f, 2, "", "p:a", ""))
	wantError(t, "xml elsewhere", api.ErrNamespace)(attrs.SetNS(f, 2, "u", "xml:a", ""))
	wantError(t, "xmlns elsewhere", api.ErrNamespace)(attrs.SetNS(f, 2, "u", "xmlns", ""))
	wantError(t, "another one there", api.ErrNamespace)(attrs.SetNS(f, 2, api.SpaceXMLNS, "a", ""))
}

// P6.3, P6.5: MaxAttrs attributes may be had, and not one more; the values of those that there are may still be set.
func TestMany(t *testing.T) {
	more := full(api.MaxAttrs - 1)
	for what, set := range map[string]func(f api.Forest, name string) (api.Forest, []api.Change, api.Errno){
		"Set": func(f api.Forest, name string) (api.Forest, []api.Change, api.Errno) {
			return attrs.Set(f, 2, name, "n")
		},
		"SetNS": func(f api.Forest, name string) (api.Forest, []api.Change, api.Errno) {
			return attrs.SetNS(f, 2, "", name, "n")
		},
		"Toggle": func(f api.Forest, name string) (api.Forest, []api.Change, api.Errno) {
			g, l, is, why := attrs.Toggle(f, 2, name, api.ForceNone)
			if is != (why == api.OK && l[0].Has) {
				t.Error("Toggle:", is, why)
			}
			return g, l, why
		},
	} {
		g, _, why := set(more, "n")
		if why != api.OK || len(g.Nodes[1].Attrs) != api.MaxAttrs {
			t.Fatal(what, why)
		}
		wantError(t, what, api.ErrMany)(set(g, "m"))
		if h, l, why := set(g, "a63"); why != api.ErrMany || h.Nodes != nil || l != nil {
			t.Error(what, why)
		}
		if _, l, why := set(g, "a62"); why != api.OK || len(l) != 1 || !l[0].Had || l[0].Old != "v" {
			t.Error(what, "of one that there is:", l, why)
		}
		wantError(t, what+" of no name", api.ErrCharacter)(set(g, "1"))
		wantError(t, what+" of a long one", api.ErrLong)(set(g, strings.Repeat("a", api.MaxName+1)))
	}
	f := full(api.MaxAttrs)
	wantError(t, "SetNS of another space", api.ErrMany)(attrs.SetNS(f, 2, "u", "a1", ""))
	wantError(t, "SetNS of no space for a prefix", api.ErrNamespace)(attrs.SetNS(f, 2, "", "p:a", ""))
	g, l, is, why := attrs.Toggle(f, 2, "n", api.ForceOff)
	wantNothing(t, "Toggle off", f)(g, l, why)
	g, l, on, why := attrs.Toggle(f, 2, "n", api.ForceOn)
	wantError(t, "Toggle on", api.ErrMany)(g, l, why)
	if is || on {
		t.Error(is, on)
	}
}

// without has one of some no more.
func without(at int) []api.Attr { return slices.Delete(some(), at, at+1) }

// P6.4: what Get, GetNS finds is there no more, from between others too; where nothing is found nothing changes.
func TestRemove(t *testing.T) {
	f := hall()
	wantChange(t, "Remove of ID", f, api.Change{Node: 2, Name: local("id"), Old: "x", Had: true}, without(0))(attrs.Remove(f, 2, "ID"))
	wantChange(t, "Remove of Id elsewhere", f, api.Change{Node: 3, Name: local("Id"), Old: "z", Had: true}, without(4))(attrs.Remove(f, 3, "Id"))
	wantChange(t, "Remove of the first p:a", f, api.Change{Node: 2, Name: api.Name{Space: "u", Prefix: "p", Local: "a"}, Old: "1", Had: true}, without(1))(attrs.Remove(f, 2, "p:a"))
	wantChange(t, "Remove of the last one", f, api.Change{Node: 4, Name: local("last"), Had: true}, without(5))(attrs.Remove(f, 4, "last"))
	wantChange(t, "RemoveNS", f, api.Change{Node: 2, Name: api.Name{Space: "v", Local: "id"}, Old: "y", Had: true}, without(2))(attrs.RemoveNS(f, 2, "v", "id"))
	wantChange(t, "RemoveNS of a prefixed one", f, api.Change{Node: 2, Name: api.Name{Space: "u", Prefix: "p", Local: "a"}, Old: "1", Had: true}, without(1))(attrs.RemoveNS(f, 2, "u", "a"))
	wantChange(t, "RemoveNS without a space", f, api.Change{Node: 2, Name: local("p:a"), Old: "2", Had: true}, without(3))(attrs.RemoveNS(f, 2, "", "p:a"))
	for _, s := range []string{"", "a", "1", "\xff", "none", strings.Repeat("a", api.MaxName+1)} {
		wantNothing(t, "Remove of "+s, f)(attrs.Remove(f, 2, s))
		wantNothing(t, "RemoveNS of "+s, f)(attrs.RemoveNS(f, 2, "", s))
		wantNothing(t, "RemoveNS in another space", f)(attrs.RemoveNS(f, 2, s, "id2"))
	}
	wantNothing(t, "Remove of ID elsewhere", f)(attrs.Remove(f, 3, "ID"))
	wantNothing(t, "RemoveNS of ID", f)(attrs.RemoveNS(f, 2, "", "ID"))
	g, _, _ := attrs.Remove(f, 2, "id")
	if v, is, _ := attrs.Get(g, 2, "id"); v != "y" || !is {
		t.Error("the second id is the first one now:", v, is)
	}
}

// P6.5: each force, where there is an attribute and where there is none.
func TestToggle(t *testing.T) {
	id := api.Change{Node: 2, Name: local("id"), Old: "x", Had: true}
	n := api.Change{Node: 2, Name: local("new"), Has: true}
	more := append(some(), api.Attr{Name: local("new")})
	f := hall()
	for _, c := range []struct {
		qualified string
		force     api.Force
		is        bool
		want      func(api.Forest, []api.Change, api.Errno)
	}{
		{"ID", api.ForceNone, false, wantChange(t, "none, there", f, id, without(0))},
		{"ID", api.ForceOff, false, wantChange(t, "off, there", f, id, without(0))},
		{"ID", api.ForceOn, true, wantNothing(t, "on, there", f)},
		{"New", api.ForceNone, true, wantChange(t, "none, not there", f, n, more)},
		{"New", api.ForceOn, true, wantChange(t, "on, not there", f, n, more)},
		{"New", api.ForceOff, false, wantNothing(t, "off, not there", f)},
	} {
		g, l, is, why := attrs.Toggle(f, 2, c.qualified, c.force)
		c.want(g, l, why)
		if is != c.is {
			t.Errorf("Toggle of %s by %d: %t", c.qualified, c.force, is)
		}
	}
	g, l, is, why := attrs.Toggle(f, 4, "ID", api.ForceNone)
	wantChange(t, "ID elsewhere", f, api.Change{Node: 4, Name: local("ID"), Has: true}, append(some(), api.Attr{Name: local("ID")}))(g, l, why)
	if !is {
		t.Error("ID elsewhere")
	}
}

// P6.5: a force that is none of the three is an ErrRange, ahead of names that are too long, or none.
func TestToggleWrong(t *testing.T) {
	long := strings.Repeat("a", api.MaxName)
	for _, force := range []api.Force{3, 4, 255} {
		if _, _, _, why := attrs.Toggle(hall(), 1, "id", force); why != api.ErrType {
			t.Error("no element goes ahead of no force:", why)
		}
		if _, _, _, why := attrs.Toggle(full(api.MaxAttrs+1), 1, "id", force); why != api.ErrForest {
			t.Error("a forest that is not right goes ahead of no force:", why)
		}
		for _, s := range []string{"id", "1", long + "a"} {
			g, l, is, why := attrs.Toggle(hall(), 2, s, force)
			wantError(t, "by no force", api.ErrRange)(g, l, why)
			if is {
				t.Error(force)
			}
		}
	}
	for _, force := range []api.Force{api.ForceNone, api.ForceOn, api.ForceOff} {
		for s, want := range map[string]api.Errno{long + "a": api.ErrLong, long + " ": api.ErrLong, "": api.ErrCharacter, "\xff": api.ErrCharacter} {
			g, l, is, why := attrs.Toggle(hall(), 2, s, force)
			wantError(t, "of "+s, want)(g, l, why)
			if is {
				t.Error(force)
			}
		}
		if _, _, is, why := attrs.Toggle(hall(), 2, long, force); is != (force != api.ForceOff) || why != api.OK {
			t.Error("of MaxName bytes:", is, why)
		}
	}
}

// Chapter 6, its example.
func TestExample(t *testing.T) {
	f := hall()
	for h, want := range map[int]string{2: "id", 3: "ID", 4: "ID", 5: "ID"} {
		g, l, why := attrs.Set(f, h, "ID", "x")
		if why != api.OK || len(l) != 1 || l[0].Name != local(want) {
			t.Error(h, l, why)
		}
		if v, is, _ := attrs.GetNS(g, h, "", want); v != "x" || !is {
			t.Error(h, v, is)
		}
	}
	g, _, why := attrs.SetNS(f, 5, api.SpaceXML, "xml:lang", "en")
	if l, _ := attrs.Names(g, 5); why != api.OK || !slices.Equal(l, []string{"xml:lang"}) {
		t.Error(l, why)
	}
	if v, is, why := attrs.GetNS(g, 5, api.SpaceXML, "lang"); v != "en" || !is || why != api.OK {
		t.Error(v, is, why)
	}
	wantError(t, "Set of 1", api.ErrCharacter)(attrs.Set(f, 5, "1", "x"))
	g, _, _ = attrs.Set(f, 5, "a:b", "x")
	if l := g.Nodes[4].Attrs; !slices.Equal(l, []api.Attr{{Name: local("a:b"), Value: "x"}}) {
		t.Error(l)
	}
}
