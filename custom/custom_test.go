package custom_test

import (
	"fmt"
	"math"
	"slices"
	"strconv"
	"strings"
	"testing"

	"canopy/api"
	"canopy/custom"
	"canopy/forest"
	"canopy/sample"
)

func def(name, local string, constructor int, observed ...string) api.Definition {
	return api.Definition{Name: name, Local: local, Constructor: constructor, Observed: observed}
}

// two has a definition of an element of its own, and one of a built-in element.
func two() api.Registry {
	return api.Registry{Definitions: []api.Definition{def("x-a", "x-a", 1, "p"), def("x-b", "button", 2, "q", "r")}}
}

// with has the two definitions, and elements.
func with(elements ...api.Custom) api.Registry {
	return api.Registry{Definitions: two().Definitions, Elements: elements}
}

// many are n definitions.
func many(n int) api.Registry {
	var r api.Registry
	for i := range n {
		name := "x-" + strconv.Itoa(i)
		r.Definitions = append(r.Definitions, def(name, name, i+1))
	}
	return r
}

// crowd is n elements that nothing is known of, of the nodes from one on.
func crowd(from, n int) []api.Custom {
	var l []api.Custom
	for i := range n {
		l = append(l, api.Custom{Node: from + i})
	}
	return l
}

// long is a name of a custom element of n bytes.
func long(n int) string { return "x-" + strings.Repeat("a", n-2) }

// attrs are n names.
func attrs(n int) []string {
	var l []string
	for i := range n {
		l = append(l, strconv.Itoa(i))
	}
	return l
}

// longAttrs are as many names as may be, each as long as may be.
func longAttrs() []string {
	l := attrs(api.MaxAttrs)
	for i, name := range l {
		l[i] = strings.Repeat("a", api.MaxName-len(name)) + name
	}
	return l
}

func fine(t *testing.T, why api.Errno) {
	t.Helper()
	if why != api.OK {
		t.Fatal("error", why)
	}
}

func wantRegistry(t *testing.T, what string, r api.Registry, why api.Errno, want api.Registry) {
	t.Helper()
	if why != api.OK || !sample.SameRegistry(r, want) {
		t.Errorf("%s: %v, error %d; want %v", what, r, why, want)
	}
}

// The chapter's example.
func TestExample(t *testing.T) {
	r, why := custom.Define(api.Registry{}, def("x-a", "x-a", 1))
	fine(t, why)
	if d, is, why := custom.Look(r, api.SpaceHTML, "x-a", ""); why != api.OK || !is || d.Constructor != 1 {
		t.Error("Look(x-a):", d, is, why)
	}
	if _, why := custom.Define(r, def("x-a", "x-a", 1)); why != api.ErrUnsupported {
		t.Error("once more:", why)
	}
	if _, why := custom.Define(r, def("div", "div", 2)); why != api.ErrSyntax {
		t.Error("div:", why)
	}
	r, why = custom.Define(r, def("x-b", "button", 2))
	fine(t, why)
	if d, is, why := custom.Look(r, api.SpaceHTML, "button", "x-b"); why != api.OK || !is || d.Name != "x-b" {
		t.Error("Look(button, x-b):", d, is, why)
	}
	if d, is, why := custom.Look(r, api.SpaceHTML, "button", ""); why != api.OK || is || d.Name != "" {
		t.Error("Look(button):", d, is, why)
	}
}

// Words (a definition, a registry that is right), 25.1: at each edge.
func TestRight(t *testing.T) {
	whole := many(api.MaxDefinitions)
	whole.Elements = crowd(1, api.MaxNodes)
	for what, r := range map[string]api.Registry{
		"nothing":                         {},
		"empty lists":                     {Definitions: []api.Definition{}, Elements: []api.Custom{}},
		"no elements":                     two(),
		"no definitions":                  {Elements: crowd(1, 3)},
		"as many as may be":               whole,
		"a Name as long as may be":        {Definitions: []api.Definition{def(long(api.MaxName), long(api.MaxName), 1)}},
		"a Local as long as may be":       {Definitions: []api.Definition{def("x-a", strings.Repeat("a", api.MaxName), 1)}},
		"a Local that is no name":         {Definitions: []api.Definition{def("x-a", "1 2", 1)}},
		"a Local like font-face":          {Definitions: []api.Definition{def("x-a", "font-face", 1)}},
		"a Local of two":                  {Definitions: []api.Definition{def("x-a", "p", 1), def("x-b", "p", 2)}},
		"a Local of more than ASCII":      {Definitions: []api.Definition{def("x-é", "x-é", 1)}},
		"a Constructor below 0":           {Definitions: []api.Definition{def("x-a", "x-a", -1), def("x-b", "x-b", math.MinInt)}},
		"one callback of all":             {Definitions: []api.Definition{{Name: "x-a", Local: "x-a", Constructor: 1, Connected: 1, Disconnected: 1, Adopted: 1, Changed: -1}}},
		"as many Observed as may be":      {Definitions: []api.Definition{def("x-a", "x-a", 1, longAttrs()...)}},
		"Observed that are no names":      {Definitions: []api.Definition{def("x-a", "x-a", 1, "", " ", "A", "a", "\xff")}},
		"one Observed of two":             {Definitions: []api.Definition{def("x-a", "x-a", 1, "a"), def("x-b", "x-b", 2, "a")}},
		"each state":                      with(api.Custom{Node: 1}, api.Custom{Node: 2, State: api.StateUndefined}, api.Custom{Node: 3, State: api.StateFailed, Definition: "x-a"}, api.Custom{Node: 4, State: api.StateCustom, Definition: "x-b"}),
		"an is in each state":             with(api.Custom{Node: 1, Is: "x-a"}, api.Custom{Node: 2, State: api.StateCustom, Definition: "x-a", Is: "x-b"}),
		"an is that is no name":           with(api.Custom{Node: 1, Is: " "}),
		"an is that is long":              with(api.Custom{Node: 1, Is: long(api.MaxName + 1)}),
		"gaps, and a node far away":       {Elements: []api.Custom{{Node: 1}, {Node: 3}, {Node: math.MaxInt}}},
		"a definition of several":         with(api.Custom{Node: 1, State: api.StateCustom, Definition: "x-a"}, api.Custom{Node: 2, State: api.StateCustom, Definition: "x-a"}),
		"as many elements, from afar":     {Elements: crowd(math.MaxInt-api.MaxNodes+1, api.MaxNodes)},
		"a Constructor like a callback's": {Definitions: []api.Definition{{Name: "x-a", Local: "x-a", Constructor: 1, Connected: 2}, def("x-b", "x-b", 2)}},
	} {
		if why := custom.Check(r); why != api.OK {
			t.Errorf("%s: error %d", what, why)
		}
	}
}

// 25.2: a definition more, behind the others, with its Observed each once.
func TestDefine(t *testing.T) {
	whole := api.Definition{Name: "x-c", Local: "p", Constructor: -3, Connected: 4, Disconnected: -5, Adopted: 6, Changed: 7, Observed: []string{"b", "a"}}
	elements := []api.Custom{{Node: 2, State: api.StateCustom, Definition: "x-b", Is: "x-b"}, {Node: 9}}
	for what, x := range map[string]struct {
		r       api.Registry
		d, want api.Definition
	}{
		"the first one":            {api.Registry{}, def("x-a", "x-a", 1), def("x-a", "x-a", 1)},
		"behind others":            {with(elements...), whole, whole},
		"an Observed twice":        {two(), def("x-c", "x-c", 3, "a", "a"), def("x-c", "x-c", 3, "a")},
		"many times, in order":     {two(), def("x-c", "x-c", 3, "b", "a", "b", "", "c", "a", ""), def("x-c", "x-c", 3, "b", "a", "", "c")},
		"in two cases":             {two(), def("x-c", "x-c", 3, "a", "A"), def("x-c", "x-c", 3, "a", "A")},
		"as many as may be":        {two(), def("x-c", "x-c", 3, longAttrs()...), def("x-c", "x-c", 3, longAttrs()...)},
		"the last one":             {many(api.MaxDefinitions - 1), def("x-z", "x-z", -1), def("x-z", "x-z", -1)},
		"as long as may be":        {two(), def(long(api.MaxName), strings.Repeat("a", api.MaxName), 3), def(long(api.MaxName), strings.Repeat("a", api.MaxName), 3)},
		"of a Local that is there": {two(), def("x-c", "button", 3), def("x-c", "button", 3)},
		"of a Local like x-a":      {two(), def("x-c", "X-a", 3), def("x-c", "X-a", 3)},
	} {
		r, why := custom.Define(x.r, x.d)
		want := sample.CopyRegistry(x.r)
		want.Definitions = append(want.Definitions, x.want)
		wantRegistry(t, what, r, why, want)
		fine(t, custom.Check(r))
	}
}

// 25.1: the definition of a name.
func TestGet(t *testing.T) {
	r := two()
	for name, want := range map[string]int{"x-a": 0, "x-b": 1, "": -1, "button": -1, "x-c": -1, "X-A": -1, "div": -1, long(api.MaxName + 1): -1} {
		d, is, why := custom.Get(r, name)
		var wanted api.Definition
		if want >= 0 {
			wanted = r.Definitions[want]
		}
		if why != api.OK || is != (want >= 0) || !sample.SameDefinition(d, wanted) {
			t.Errorf("Get(%s): %v, %v, error %d", name, d, is, why)
		}
	}
	if d, is, why := custom.Get(api.Registry{}, "x-a"); why != api.OK || is || d.Name != "" {
		t.Error("of none:", d, is, why)
	}
}

// Words (the definition of an element's name), 25.1: by its own name, then by its is.
func TestLook(t *testing.T) {
	r := api.Registry{Definitions: []api.Definition{
		def("x-b", "button", 1), def("x-a", "x-a", 2), def("x-c", "button", 3), def("x-d", "x-d", 4), def("x-e", "p", 5),
	}}
	for _, x := range []struct {
		space, local, is, want string
	}{
		{api.SpaceHTML, "x-a", "", "x-a"}, {api.SpaceHTML, "x-a", "x-a", "x-a"}, {api.SpaceHTML, "x-a", "x-b", "x-a"}, {api.SpaceHTML, "x-a", "x-d", "x-a"},
		{api.SpaceHTML, "button", "x-b", "x-b"}, {api.SpaceHTML, "button", "x-c", "x-c"}, {api.SpaceHTML, "p", "x-e", "x-e"},
		{api.SpaceHTML, "button", "", ""}, {api.SpaceHTML, "button", "x-a", ""}, {api.SpaceHTML, "button", "x-e", ""}, {api.SpaceHTML, "button", "button", ""}, {api.SpaceHTML, "button", "x-z", ""},
		{api.SpaceHTML, "x-b", "", ""}, {api.SpaceHTML, "x-b", "x-b", ""}, {api.SpaceHTML, "x-b", "x-a", ""}, {api.SpaceHTML, "x-z", "x-a", ""},
		{api.SpaceHTML, "", "", ""}, {api.SpaceHTML, "", "x-a", ""}, {api.SpaceHTML, "X-A", "", ""}, {api.SpaceHTML, "div", "x-b", ""},
		{"", "x-a", "", ""}, {api.SpaceSVG, "x-a", "x-a", ""}, {api.SpaceSVG, "button", "x-b", ""}, {"", "", "", ""}, {"HTML", "x-a", "", ""},
		{api.SpaceHTML + "/", "x-a", "", ""},
	} {
		d, is, why := custom.Look(r, x.space, x.local, x.is)
		if why != api.OK || d.Name != x.want || is != (x.want != "") {
			t.Errorf("Look(%s, %s, %s): %v, %v, error %d; want %s", x.space, x.local, x.is, d, is, why, x.want)
		}
	}
	if d, is, why := custom.Look(api.Registry{}, api.SpaceHTML, "x-a", "x-a"); why != api.OK || is || d.Name != "" {
		t.Error("of none:", d, is, why)
	}
}

// 25.3: an element more, at its place, as far as its name and its is have it.
func TestBegin(t *testing.T) {
	f := sample.Cast("a(x y u w v - #) ~(x)")
	f.Nodes[6].Name.Prefix = "h"
	for _, x := range []struct {
		what  string
		h     int
		is    string
		state api.CustomState
	}{
		{"a name of a custom element", 3, "", api.StateUndefined},
		{"one that is not defined", 4, "", api.StateUndefined},
		{"with an is", 3, "x-b", api.StateUndefined},
		{"a built-in one", 5, "", api.StateUncustomized},
		{"a built-in one with an is", 5, "x-b", api.StateUndefined},
		{"with one that is not defined", 5, "x-z", api.StateUndefined},
		{"with one that is no name", 5, " ", api.StateUndefined},
		{"with one as long as may be", 5, long(api.MaxName), api.StateUndefined},
		{"in another space", 6, "", api.StateUncustomized},
		{"in another space, with an is", 6, "x-a", api.StateUndefined},
		{"in no space", 2, "", api.StateUncustomized},
		{"with a prefix", 7, "", api.StateUncustomized},
		{"that hangs in no document", 11, "", api.StateUndefined},
	} {
		for what, elements := range map[string][]api.Custom{
			"none":          nil,
			"one ahead":     {{Node: 1, Is: "z"}},
			"one behind":    {{Node: 99, State: api.StateCustom, Definition: "x-a"}},
			"some":          {{Node: 1}, {Node: 8}, {Node: 9}, {Node: math.MaxInt}},
			"all but one":   crowd(20, api.MaxNodes-1),
			"all but these": crowd(12, api.MaxNodes-12),
		} {
			in := with(elements...)
			r, why := custom.Begin(f, in, x.h, x.is)
			more := append(slices.Clone(elements), api.Custom{Node: x.h, State: x.state, Is: x.is})
			slices.SortFunc(more, func(a, b api.Custom) int { return a.Node - b.Node })
			wantRegistry(t, x.what+", "+what, r, why, with(more...))
			fine(t, custom.Check(r))
		}
	}
}

// 25.3: an element further on: in each state, from each state.
func TestSet(t *testing.T) {
	states := []api.Custom{
		{Node: 3}, {Node: 3, Is: "x-b"}, {Node: 3, State: api.StateUndefined}, {Node: 3, State: api.StateUndefined, Is: "z"},
		{Node: 3, State: api.StateFailed, Definition: "x-a"}, {Node: 3, State: api.StateCustom, Definition: "x-b", Is: "x-b"},
	}
	for _, was := range states {
		for _, to := range []api.Custom{
			{}, {State: api.StateUndefined}, {State: api.StateFailed, Definition: "x-a"}, {State: api.StateFailed, Definition: "x-b"},
			{State: api.StateCustom, Definition: "x-a"}, {State: api.StateCustom, Definition: "x-b"},
		} {
			want := api.Custom{Node: 3, Is: was.Is, State: to.State, Definition: to.Definition}
			first, last := api.Custom{Node: 1, Is: "p"}, api.Custom{Node: 7, State: api.StateFailed, Definition: "x-a"}
			r, why := custom.Set(with(first, was, last), 3, to.State, to.Definition)
			wantRegistry(t, fmt.Sprint(was, " to ", to), r, why, with(first, want, last))
			r, why = custom.Set(with(was), 3, to.State, to.Definition)
			wantRegistry(t, fmt.Sprint("alone: ", was, " to ", to), r, why, with(want))
		}
	}
}

// 25.4: the entry of an element; one that says nothing, if there is none.
func TestOf(t *testing.T) {
	r := with(api.Custom{Node: 2, State: api.StateCustom, Definition: "x-b", Is: "x-b"}, api.Custom{Node: 5, Is: "z"}, api.Custom{Node: math.MaxInt, State: api.StateUndefined})
	for h, want := range map[int]api.Custom{
		2: r.Elements[0], 5: r.Elements[1], math.MaxInt: r.Elements[2],
		1: {Node: 1}, 3: {Node: 3}, 6: {Node: 6}, 0: {}, -1: {Node: -1}, math.MinInt: {Node: math.MinInt}, api.MaxNodes + 1: {Node: api.MaxNodes + 1},
	} {
		if e, why := custom.Of(r, h); why != api.OK || e != want {
			t.Errorf("Of(%d): %v, error %d", h, e, why)
		}
	}
	if e, why := custom.Of(api.Registry{}, 7); why != api.OK || e != (api.Custom{Node: 7}) {
		t.Error("of none:", e, why)
	}
}

func wantCandidates(t *testing.T, what string, f api.Forest, r api.Registry, doc int, name string, want ...int) {
	t.Helper()
	if l, why := custom.Candidates(f, r, doc, name); why != api.OK || !slices.Equal(l, want) {
		t.Errorf("%s: %v, error %d; want %v", what, l, why, want)
	}
}

// 25.4: the elements of a document that a definition upgrades, in order, through shadow trees.
func TestCandidates(t *testing.T) {
	f := sample.Cast("a(x{b(x y) x}(x) u w(x) x[u x] #) ~(x)")
	all := []int{3, 6, 8, 9, 12, 13, 16}
	wantCandidates(t, "no elements", f, two(), 1, "x-a", all...)
	wantCandidates(t, "no is", f, two(), 1, "x-b")
	undefined := with()
	for _, h := range all {
		undefined.Elements = append(undefined.Elements, api.Custom{Node: h, State: api.StateUndefined, Is: "z"})
	}
	wantCandidates(t, "with an is that is no matter", f, undefined, 1, "x-a", all...)
	for i, h := range all {
		for _, e := range []api.Custom{{}, {State: api.StateFailed, Definition: "x-a"}, {State: api.StateCustom, Definition: "x-b"}} {
			r := sample.CopyRegistry(undefined)
			e.Node = h
			r.Elements[i] = e
			wantCandidates(t, "one is further, or never was one", f, r, 1, "x-a", slices.Delete(slices.Clone(all), i, i+1)...)
		}
	}
	built := with(api.Custom{Node: 10, State: api.StateUndefined, Is: "x-b"}, api.Custom{Node: 15, State: api.StateUndefined, Is: "x-b"})
	wantCandidates(t, "built-in ones", f, built, 1, "x-b", 10, 15)
	wantCandidates(t, "and those of their own", f, built, 1, "x-a", all...)
	for _, e := range []api.Custom{
		{Is: "x-b"}, {State: api.StateUndefined}, {State: api.StateUndefined, Is: "x-a"}, {State: api.StateUndefined, Is: "button"},
		{State: api.StateFailed, Is: "x-b", Definition: "x-b"}, {State: api.StateCustom, Is: "x-b", Definition: "x-b"},
	} {
		e.Node = 10
		wantCandidates(t, fmt.Sprint("a built-in one that is none: ", e), f, with(e, built.Elements[1]), 1, "x-b", 15)
	}
}

// 25.4: where there are no candidates, and in another document.
func TestCandidatesElsewhere(t *testing.T) {
	r := two()
	wantCandidates(t, "an empty document", forest.New(true), r, 1, "x-a")
	wantCandidates(t, "others", sample.Cast("a(y u w - # v{b} z)"), r, 1, "x-a")
	wantCandidates(t, "loose ones", sample.Cast("a ~(x(x) x)"), r, 1, "x-a")
	wantCandidates(t, "the root itself", sample.Cast("x"), r, 1, "x-a", 2)
	f := sample.Cast("x(x)")
	other := api.Node{Kind: api.KindElement, Name: api.Name{Space: api.SpaceHTML, Local: "x-a"}, Parent: 4, Doc: 4}
	f.Nodes = append(f.Nodes, api.Node{Kind: api.KindDocument, Doc: 4, Kids: []int{5}}, other)
	wantCandidates(t, "the one document", f, r, 1, "x-a", 2, 3)
	wantCandidates(t, "the other one", f, r, 4, "x-a", 5)
	prefixed := sample.Cast("x")
	prefixed.Nodes[1].Name.Prefix = "h"
	wantCandidates(t, "a prefix is no matter", prefixed, r, 1, "x-a", 2)
	texts := sample.Flat(api.MaxNodes)
	for i := range texts.Nodes[2:] {
		n := &texts.Nodes[i+2]
		n.Kind, n.Name = api.KindElement, other.Name
	}
	if l, why := custom.Candidates(texts, r, 1, "x-a"); why != api.OK || len(l) != api.MaxNodes-2 {
		t.Error("as many as may be:", len(l), why)
	}
}
