package tokens_test

import (
	"math"
	"slices"
	"strconv"
	"strings"
	"testing"

	"canopy/api"
	"canopy/forest"
	"canopy/sample"
	"canopy/tokens"
)

func local(s string) api.Name { return api.Name{Local: s} }

// some are attributes, of which two have the local name class, and two the qualified name p:a.
func some() []api.Attr {
	return []api.Attr{
		{Name: api.Name{Space: "u", Local: "class"}, Value: "x y"},
		{Name: api.Name{Space: "u", Prefix: "p", Local: "a"}, Value: "z"},
		{Name: local("class"), Value: "a  b a"},
		{Name: local("none"), Value: ""},
		{Name: local("white"), Value: " \t\n\f\r"},
		{Name: local("p:a"), Value: "\nq\tr\fs\rt "},
		{Name: local("Class"), Value: "c"},
	}
}

// Places in some.
const (
	atClass = 2
	atNone  = 3
	atWhite = 4
	atColon = 5
	atUpper = 6
)

// hall has every kind of node. 2 is an HTML element in an HTML document, 3 another one there, 4 an HTML one elsewhere, 5 has no attribute.
func hall() api.Forest {
	return api.Forest{Nodes: []api.Node{
		{Kind: api.KindDocument, Kids: []int{2}, Doc: 1, HTML: true},
		{Kind: api.KindElement, Name: api.Name{Space: api.SpaceHTML, Local: "div"}, Attrs: some(), Parent: 1, Kids: []int{3, 6, 7, 8}, Doc: 1, Shadow: 9},
		{Kind: api.KindElement, Name: api.Name{Space: api.SpaceSVG, Local: "g"}, Attrs: some(), Parent: 2, Doc: 1},
		{Kind: api.KindElement, Name: api.Name{Space: api.SpaceHTML, Local: "div"}, Attrs: some(), Parent: 12, Doc: 12},
		{Kind: api.KindElement, Name: api.Name{Space: api.SpaceHTML, Local: "p"}, Doc: 1},
		{Kind: api.KindText, Data: api.Units{1}, Parent: 2, Doc: 1},
		{Kind: api.KindCData, Parent: 2, Doc: 1},
		{Kind: api.KindInstruction, Name: local("go"), Parent: 2, Doc: 1},
		{Kind: api.KindShadow, Kids: []int{10}, Doc: 1, Host: 2, Mode: api.ShadowOpen},
		{Kind: api.KindComment, Parent: 9, Doc: 1},
		{Kind: api.KindFragment, Doc: 1},
		{Kind: api.KindDocument, Kids: []int{13, 4}, Doc: 12},
		{Kind: api.KindDoctype, Name: local("d"), Parent: 12, Doc: 12},
	}}
}

// one is a document with an element that has the attribute class of a value.
func one(value string) api.Forest {
	f := forest.New(true)
	f.Nodes = append(f.Nodes, api.Node{Kind: api.KindElement, Name: local("p"), Attrs: []api.Attr{{Name: local("class"), Value: value}}, Doc: 1})
	return f
}

// full is a document with an element that has n attributes: a0, a1 and so on.
func full(n int) api.Forest {
	f := one("")
	f.Nodes[1].Attrs = nil
	for i := range n {
		f.Nodes[1].Attrs = append(f.Nodes[1].Attrs, api.Attr{Name: local("a" + strconv.Itoa(i)), Value: "v"})
	}
	return f
}

// numbered are n texts, each another one.
func numbered(n int) []string {
	var l []string
	for i := range n {
		l = append(l, "t"+strconv.Itoa(i))
	}
	return l
}

// answer is an answer of changes, and what is told beside it.
type answer struct {
	forest  api.Forest
	changes []api.Change
	is      bool
	why     api.Errno
}

func answers(g api.Forest, l []api.Change, why api.Errno) answer { return answer{g, l, false, why} }

func tells(g api.Forest, l []api.Change, is bool, why api.Errno) answer { return answer{g, l, is, why} }

func same(a, b answer) bool {
	return a.why == b.why && a.is == b.is && forest.Same(a.forest, b.forest) && sample.SameChanges(a.changes, b.changes)
}

// bare tells whether there is nothing but an error.
func bare(a answer) bool {
	return a.forest.Nodes == nil && a.changes == nil && !a.is && a.why != api.OK
}

// call is one of a forest, an element and a local name.
type call = func(f api.Forest, h int, local string) answer

// calls are all calls, by what they are handed beside a forest, an element and a local name.
func calls(text string, l []string, force api.Force) map[string]call {
	return map[string]call{
		"List": func(f api.Forest, h int, local string) answer {
			l, why := tokens.List(f, h, local)
			return answer{is: l != nil, why: why}
		},
		"Has": func(f api.Forest, h int, local string) answer {
			is, why := tokens.Has(f, h, local, text)
			return answer{is: is, why: why}
		},
		"Add":    func(f api.Forest, h int, local string) answer { return answers(tokens.Add(f, h, local, l)) },
		"Remove": func(f api.Forest, h int, local string) answer { return answers(tokens.Remove(f, h, local, l)) },
		"Toggle": func(f api.Forest, h int, local string) answer { return tells(tokens.Toggle(f, h, local, text, force)) },
		"Replace": func(f api.Forest, h int, local string) answer {
			return tells(tokens.Replace(f, h, local, text, text))
		},
		"Set": func(f api.Forest, h int, local string) answer { return answers(tokens.Set(f, h, local, text)) },
	}
}

// wantAll sees that every call, handed what is right and what is wrong, answers an error alone.
func wantAll(t *testing.T, f api.Forest, h int, name string, why api.Errno) {
	t.Helper()
	long := strings.Repeat("v", api.MaxValue+1)
	for _, all := range []map[string]call{
		calls("a", []string{"a"}, api.ForceNone), calls("", []string{""}, api.ForceCount), calls(" ", numbered(api.MaxList+1), 255), calls(long, nil, 0),
	} {
		for what, do := range all {
			if x := do(f, h, name); !bare(x) || x.why != why {
				t.Errorf("%s(%d, %.10q): error %d, want %d", what, h, name, x.why, why)
			}
		}
	}
}

// 7.1: ErrForest, ErrRange, ErrType, ErrLong, ErrCharacter, in this order, ahead of all else.
func TestErrorsAhead(t *testing.T) {
	long := strings.Repeat("a", api.MaxName+1)
	locals := []string{"class", long, long + " ", "", "1", "a b", " a", "-a", "\xff", "a\xff", "<", "a=b"}
	bad := hall()
	bad.Nodes[2].Attrs = append(bad.Nodes[2].Attrs, bad.Nodes[2].Attrs[0])
	many := hall()
	many.Nodes = append(many.Nodes, make([]api.Node, api.MaxNodes)...)
	for _, name := range locals {
		for _, h := range []int{2, 1, 0, -1, math.MaxInt} {
			wantAll(t, bad, h, name, api.ErrForest)
			wantAll(t, many, h, name, api.ErrForest)
			wantAll(t, full(api.MaxAttrs+1), h, name, api.ErrForest)
		}
		for _, h := range []int{0, -1, 14, math.MaxInt, math.MinInt} {
			wantAll(t, hall(), h, name, api.ErrRange)
			wantAll(t, api.Forest{}, h, name, api.ErrRange)
		}
		for i, n := range hall().Nodes {
			if n.Kind != api.KindElement {
				wantAll(t, hall(), i+1, name, api.ErrType)
			}
		}
	}
	for _, name := range locals[1:] {
		why := api.ErrCharacter
		if len(name) > api.MaxName {
			why = api.ErrLong
		}
		wantAll(t, hall(), 2, name, why)
		wantAll(t, full(api.MaxAttrs), 2, name, why)
	}
	for _, name := range []string{"class", long[1:], ":", "a:b:c", "xmlns", "é", "_-."} {
		for what, do := range calls("a", []string{"a"}, api.ForceNone) {
			if x := do(hall(), 2, name); x.why != api.OK {
				t.Errorf("%s(%.10q): error %d", what, name, x.why)
			}
		}
	}
}

// Words, 7.1: the tokens of the attribute with that Local and no Space, whatever the element; each once.
func TestList(t *testing.T) {
	for h := 2; h <= 4; h++ {
		for name, want := range map[string][]string{
			"class": {"a", "b"}, "none": nil, "white": nil, "p:a": {"q", "r", "s", "t"}, "Class": {"c"}, "CLASS": nil, "a": nil, "p": nil, "other": nil,
		} {
			if l, why := tokens.List(hall(), h, name); !slices.Equal(l, want) || why != api.OK {
				t.Errorf("List(%d, %q) = %q, %d", h, name, l, why)
			}
		}
	}
	if l, why := tokens.List(hall(), 5, "class"); len(l) != 0 || why != api.OK {
		t.Errorf("List of none = %q, %d", l, why)
	}
	// What is no ASCII whitespace parts no tokens.
	for value, want := range map[string][]string{
		"\va\v": {"\va\v"}, "a\u00a0b": {"a\u00a0b"}, "a\u3000b \u2028": {"a\u3000b", "\u2028"}, "\x85 \xa0": {"\x85", "\xa0"}, "A a A": {"A", "a"}, "é e\u0301": {"é", "e\u0301"},
	} {
		if l, why := tokens.List(one(value), 2, "class"); !slices.Equal(l, want) || why != api.OK {
			t.Errorf("List of %q = %q, %d", value, l, why)
		}
	}
}

// 7.1: any text may be asked for.
func TestHas(t *testing.T) {
	for _, c := range []struct {
		h           int
		name, token string
		is          bool
	}{
		{2, "class", "a", true}, {2, "class", "b", true}, {2, "class", "c", false}, {2, "class", "A", false}, {2, "class", "x", false},
		{2, "class", "", false}, {2, "class", " ", false}, {2, "class", "a b", false}, {2, "class", "a  b a", false}, {2, "class", "\xff", false},
		{2, "class", strings.Repeat("a", api.MaxValue+1), false}, {2, "none", "", false}, {2, "white", " ", false}, {2, "p:a", "q", true}, {2, "p:a", "z", false},
		{3, "Class", "c", true}, {4, "Class", "a", false}, {5, "class", "a", false}, {5, "class", "", false},
	} {
		if is, why := tokens.Has(hall(), c.h, c.name, c.token); is != c.is || why != api.OK {
			t.Errorf("Has(%d, %q, %.10q) = %t, %d", c.h, c.name, c.token, is, why)
		}
	}
}

// wantValue sees that the attribute at a place of some has another value, by one change, whatever the element.
func wantValue(t *testing.T, at int, value string, is bool, do call) {
	t.Helper()
	for h := 2; h <= 4; h++ {
		old := some()[at]
		g := hall()
		g.Nodes[h-1].Attrs[at].Value = value
		c := api.Change{Kind: api.ChangeAttr, Node: h, Name: old.Name, Old: old.Value, Value: value, Had: true, Has: true}
		if x := do(hall(), h, old.Name.Local); !same(x, answer{g, []api.Change{c}, is, api.OK}) {
			t.Errorf("%d: %+v, %t, error %d; want %q", h, x.changes, x.is, x.why, value)
		}
	}
}

// wantMore sees that there is one attribute more, behind all others, by one change.
func wantMore(t *testing.T, f api.Forest, h int, name, value string, is bool, do call) {
	t.Helper()
	g := sample.Copy(f)
	g.Nodes[h-1].Attrs = append(g.Nodes[h-1].Attrs, api.Attr{Name: local(name), Value: value})
	c := api.Change{Kind: api.ChangeAttr, Node: h, Name: local(name), Value: value, Has: true}
	if x := do(f, h, name); !same(x, answer{g, []api.Change{c}, is, api.OK}) {
		t.Errorf("%+v, %t, error %d; want %q", x.changes, x.is, x.why, value)
	}
}

// wantNothing sees that nothing changes.
func wantNothing(t *testing.T, f api.Forest, is bool, x answer) {
	t.Helper()
	if !same(x, answer{f, nil, is, api.OK}) {
		t.Errorf("%+v, %t, error %d", x.changes, x.is, x.why)
	}
}

func wantError(t *testing.T, why api.Errno, x answer) {
	t.Helper()
	if !bare(x) || x.why != why {
		t.Errorf("error %d; want %d", x.why, why)
	}
}

func adding(l ...string) call {
	return func(f api.Forest, h int, local string) answer { return answers(tokens.Add(f, h, local, l)) }
}

func removing(l ...string) call {
	return func(f api.Forest, h int, local string) answer { return answers(tokens.Remove(f, h, local, l)) }
}

func toggling(token string, force api.Force) call {
	return func(f api.Forest, h int, local string) answer {
		return tells(tokens.Toggle(f, h, local, token, force))
	}
}

func replacing(token, by string) call {
	return func(f api.Forest, h int, local string) answer {
		return tells(tokens.Replace(f, h, local, token, by))
	}
}

func setting(value string) call {
	return func(f api.Forest, h int, local string) answer { return answers(tokens.Set(f, h, local, value)) }
}

// 7.2, having tokens: what is there is put in order even where nothing comes to it; where there is no attribute, there is none for no tokens.
func TestAdd(t *testing.T) {
	wantValue(t, atClass, "a b c", false, adding("c"))
	wantValue(t, atClass, "a b", false, adding())
	wantValue(t, atClass, "a b", false, adding("b", "a", "b"))
	wantValue(t, atClass, "a b d c", false, adding("d", "b", "c", "d", "c"))
	wantValue(t, atClass, "a b A \xff é", false, adding("A", "\xff", "é"))
	wantValue(t, atNone, "", false, adding())
	wantValue(t, atNone, "a", false, adding("a", "a"))
	wantValue(t, atWhite, "", false, adding())
	wantValue(t, atColon, "q r s t z", false, adding("z"))
	wantValue(t, atUpper, "c a", false, adding("a"))
	wantNothing(t, hall(), false, adding()(hall(), 5, "class"))
	wantNothing(t, hall(), false, adding()(hall(), 2, "other"))
	wantNothing(t, hall(), false, adding()(hall(), 2, "a"))
	wantMore(t, hall(), 5, "class", "b a", false, adding("b", "a", "b"))
	wantMore(t, hall(), 2, "CLASS", "a", false, adding("a"))
	wantMore(t, hall(), 3, "a", "a", false, adding("a"))
	wantMore(t, hall(), 2, "Q:b", "a", false, adding("a"))
	wantMore(t, hall(), 2, "xmlns", "a", false, adding("a"))
	f := hall()
	f.Nodes[4].Attrs = []api.Attr{{Name: api.Name{Space: "u", Prefix: "p", Local: "a"}}, {Name: api.Name{Space: "u", Local: "class"}}}
	wantMore(t, f, 5, "p:a", "b", false, adding("b"))
	wantMore(t, f, 5, "class", "b", false, adding("b"))
}

// 7.2: the attribute stays, be it empty.
func TestRemove(t *testing.T) {
	wantValue(t, atClass, "b", false, removing("a"))
	wantValue(t, atClass, "a", false, removing("b", "b"))
	wantValue(t, atClass, "a b", false, removing())
	wantValue(t, atClass, "a b", false, removing("c", "A"))
	wantValue(t, atClass, "", false, removing("b", "c", "a"))
	wantValue(t, atColon, "q s", false, removing("r", "t", "z"))
	wantValue(t, atNone, "", false, removing("a"))
	wantValue(t, atWhite, "", false, removing("a"))
	wantNothing(t, hall(), false, removing("a")(hall(), 5, "class"))
	wantNothing(t, hall(), false, removing("x")(hall(), 2, "CLASS"))
	wantNothing(t, hall(), false, removing()(hall(), 2, "a"))
}

// Words, 7.2 to 7.4: tokens that are wrong; the first wrong text of a list tells, of Replace emptiness.
func TestWrongTokens(t *testing.T) {
	for _, h := range []int{2, 3, 4, 5} {
		wantError(t, api.ErrSyntax, toggling("", api.ForceNone)(hall(), h, "class"))
		wantError(t, api.ErrSyntax, replacing("", "b")(hall(), h, "class"))
		wantError(t, api.ErrSyntax, replacing("a", "")(hall(), h, "class"))
		wantError(t, api.ErrSyntax, replacing("", "")(hall(), h, "class"))
		for _, s := range []string{" ", "a b", "a ", "\ta", "a\n", "\f", "a\rb", "\xff "} {
			wantError(t, api.ErrCharacter, toggling(s, api.ForceOff)(hall(), h, "class"))
			wantError(t, api.ErrCharacter, toggling(s, api.ForceOn)(hall(), h, "class"))
			wantError(t, api.ErrCharacter, replacing(s, "b")(hall(), h, "class"))
			wantError(t, api.ErrCharacter, replacing("a", s)(hall(), h, "class"))
			wantError(t, api.ErrSyntax, replacing(s, "")(hall(), h, "class"))
			wantError(t, api.ErrSyntax, replacing("", s)(hall(), h, "class"))
			for _, list := range []func(...string) call{adding, removing} {
				wantError(t, api.ErrCharacter, list(s)(hall(), h, "class"))
				wantError(t, api.ErrCharacter, list("a", s, "")(hall(), h, "class"))
				wantError(t, api.ErrSyntax, list("a", "", s)(hall(), h, "class"))
				wantError(t, api.ErrSyntax, list("a", "b", "")(hall(), h, "class"))
			}
		}
		for _, s := range []string{"\v", "\x00", "a\u00a0b", "\u2003", "\x85", "\x1c"} {
			if x := adding(s)(hall(), h, "class"); x.why != api.OK {
				t.Errorf("Add(%q): error %d", s, x.why)
			}
		}
	}
}

// 7.2: MaxList texts may be handed in; of one more that is told ahead of a text that is wrong.
func TestMaxList(t *testing.T) {
	twice := append(numbered(api.MaxList-1), "a")
	wantError(t, api.ErrLong, adding(twice...)(hall(), 2, "class"))
	wantValue(t, atClass, "b", false, removing(twice...))
	a := slices.Repeat([]string{"a"}, api.MaxList)
	wantValue(t, atClass, "a b", false, adding(a...))
	wantValue(t, atClass, "b", false, removing(a...))
	for _, list := range []func(...string) call{adding, removing} {
		wantError(t, api.ErrMany, list(append(a, "a")...)(hall(), 2, "class"))
		wantError(t, api.ErrMany, list(append(a, "")...)(hall(), 2, "class"))
		wantError(t, api.ErrMany, list(append([]string{" "}, a...)...)(hall(), 5, "class"))
		wantError(t, api.ErrSyntax, list(append(a[1:], "")...)(hall(), 2, "class"))
	}
}

// 7.3: with no force, either way; with a force, that way or nothing.
func TestToggle(t *testing.T) {
	wantValue(t, atClass, "b", false, toggling("a", api.ForceNone))
	wantValue(t, atClass, "b", false, toggling("a", api.ForceOff))
	wantValue(t, atClass, "a b c", true, toggling("c", api.ForceNone))
	wantValue(t, atClass, "a b c", true, toggling("c", api.ForceOn))
	wantValue(t, atUpper, "", false, toggling("c", api.ForceNone))
	wantValue(t, atWhite, "c", true, toggling("c", api.ForceNone))
	for h := 2; h <= 4; h++ {
		wantNothing(t, hall(), true, toggling("a", api.ForceOn)(hall(), h, "class"))
		wantNothing(t, hall(), false, toggling("c", api.ForceOff)(hall(), h, "class"))
		wantNothing(t, hall(), false, toggling("c", api.ForceOff)(hall(), h, "none"))
	}
	wantNothing(t, hall(), false, toggling("a", api.ForceOff)(hall(), 5, "class"))
	wantMore(t, hall(), 5, "class", "a", true, toggling("a", api.ForceNone))
	wantMore(t, hall(), 5, "class", "a", true, toggling("a", api.ForceOn))
	for _, force := range []api.Force{api.ForceCount, api.ForceCount + 1, 255} {
		for _, token := range []string{"a", "c", "", " "} {
			wantError(t, api.ErrRange, toggling(token, force)(hall(), 2, "class"))
		}
	}
}

// 7.4: by stands where the first one of both stood, and neither stands behind that.
func TestReplace(t *testing.T) {
	wantValue(t, atClass, "b", true, replacing("a", "b"))
	wantValue(t, atClass, "a", true, replacing("b", "a"))
	wantValue(t, atClass, "c b", true, replacing("a", "c"))
	wantValue(t, atClass, "a c", true, replacing("b", "c"))
	wantValue(t, atClass, "a b", true, replacing("a", "a"))
	wantValue(t, atClass, "a b", true, replacing("b", "b"))
	wantValue(t, atColon, "q t s", true, replacing("r", "t"))
	wantValue(t, atColon, "q r s", true, replacing("t", "r"))
	wantValue(t, atColon, "q r s z", true, replacing("t", "z"))
	for _, name := range []string{"class", "none", "white", "p:a", "other"} {
		wantNothing(t, hall(), false, replacing("c", "a")(hall(), 2, name))
		wantNothing(t, hall(), false, replacing("c", "c")(hall(), 2, name))
		wantNothing(t, hall(), false, replacing("c", "a")(hall(), 5, name))
	}
}

// 7.4: any value, as it is; one change also where it stays.
func TestSet(t *testing.T) {
	for _, value := range []string{"", " ", "a  b a", "c", "\xff\x00", strings.Repeat("v", api.MaxValue), strings.Repeat("é", api.MaxValue/2)} {
		for _, at := range []int{atClass, atNone, atWhite, atColon, atUpper} {
			wantValue(t, at, value, false, setting(value))
		}
		wantMore(t, hall(), 5, "class", value, false, setting(value))
		wantMore(t, hall(), 2, "CLASS", value, false, setting(value))
		wantMore(t, hall(), 4, "a", value, false, setting(value))
	}
	for _, name := range []string{"class", "none", "other"} {
		wantError(t, api.ErrLong, setting(strings.Repeat(" ", api.MaxValue+1))(hall(), 2, name))
		wantError(t, api.ErrLong, setting(strings.Repeat("é", api.MaxValue/2)+"a")(hall(), 5, name))
	}
}

// wantOne sees that the attribute class of one has another value.
func wantOne(t *testing.T, old, value string, is bool, do call) {
	t.Helper()
	c := api.Change{Kind: api.ChangeAttr, Node: 2, Name: local("class"), Old: old, Value: value, Had: true, Has: true}
	if x := do(one(old), 2, "class"); !same(x, answer{one(value), []api.Change{c}, is, api.OK}) {
		t.Errorf("%.10q: %t, error %d", old, x.is, x.why)
	}
}

// Having tokens: a value of MaxValue bytes, blanks counted, and one of a byte more.
func TestLongValue(t *testing.T) {
	a, b := strings.Repeat("a", api.MaxValue/2-1), strings.Repeat("b", api.MaxValue/2)
	wantOne(t, a, a+" "+b, false, adding(b))
	wantOne(t, "", a+" "+b, false, adding(a, b, a))
	wantMore(t, full(3), 2, "class", a+" "+b, false, adding(a, b))
	wantOne(t, a, a+" "+b, true, toggling(b, api.ForceNone))
	wantOne(t, a+" x", a+" "+b, true, replacing("x", b))
	wantOne(t, a+" "+b, a+" "+b, false, adding())
	wantOne(t, a+" "+b, b, false, removing(a))
	wantOne(t, a+"\n"+b, a+" "+b, true, replacing(a, a))
	wantOne(t, a+" "+a, a+" "+b, false, adding(b))
	more := b + "b"
	for _, force := range []api.Force{api.ForceNone, api.ForceOn} {
		wantError(t, api.ErrLong, toggling(more, force)(one(a), 2, "class"))
	}
	wantError(t, api.ErrLong, adding(more)(one(a), 2, "class"))
	wantError(t, api.ErrLong, adding(a, more)(full(3), 2, "class"))
	wantError(t, api.ErrLong, adding(a, more)(full(api.MaxAttrs), 2, "class"))
	wantError(t, api.ErrLong, replacing("x", more)(one(a+" x"), 2, "class"))
	wantNothing(t, one(a), false, toggling(more, api.ForceOff)(one(a), 2, "class"))
	wantNothing(t, one(a), false, replacing("x", more+more)(one(a), 2, "class"))
}

// Having tokens: a further attribute, where there are MaxAttrs, and one that is there.
func TestMaxAttrs(t *testing.T) {
	f := full(api.MaxAttrs)
	for _, do := range []call{adding("a"), toggling("a", api.ForceNone), toggling("a", api.ForceOn), setting("a"), setting("")} {
		wantError(t, api.ErrMany, do(f, 2, "class"))
		if x := do(f, 2, "a63"); x.why != api.OK {
			t.Error("an attribute that is there: error", x.why)
		}
	}
	wantError(t, api.ErrLong, setting(strings.Repeat("a", api.MaxValue+1))(f, 2, "class"))
	for _, do := range []call{adding(), removing("a"), removing(), toggling("a", api.ForceOff), replacing("a", "b")} {
		wantNothing(t, f, false, do(f, 2, "class"))
	}
	wantMore(t, full(api.MaxAttrs-1), 2, "class", "a", false, adding("a"))
	wantMore(t, full(api.MaxAttrs-1), 2, "class", "a", true, toggling("a", api.ForceNone))
	wantMore(t, full(api.MaxAttrs-1), 2, "class", "", false, setting(""))
}

// A token may be longer than a name: the chapter refuses none for that.
func TestLongToken(t *testing.T) {
	long := strings.Repeat("a", api.MaxName+1)
	wantOne(t, "b", "b "+long, false, adding(long))
	wantOne(t, "b", "b "+long, true, toggling(long, api.ForceNone))
	wantOne(t, "b "+long, long, true, replacing("b", long))
	wantOne(t, "b "+long, "b", false, removing(long))
}

// The chapter's examples.
func TestExamples(t *testing.T) {
	class := "a  b a"
	if l, why := tokens.List(one(class), 2, "class"); !slices.Equal(l, []string{"a", "b"}) || why != api.OK {
		t.Error(l, why)
	}
	wantOne(t, class, "a b c", false, adding("c"))
	wantOne(t, class, "b", false, removing("a"))
	wantOne(t, class, "b", true, replacing("a", "b"))
	wantOne(t, class, "a", false, toggling("b", api.ForceNone))
	wantError(t, api.ErrSyntax, adding("")(one(class), 2, "class"))
	wantError(t, api.ErrCharacter, adding("x y")(one(class), 2, "class"))
	wantOne(t, "a", "", false, removing("a"))
}
