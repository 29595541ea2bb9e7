package custom_test

import (
	"math"
	"strings"
	"testing"

	"canopy/api"
	"canopy/custom"
	"canopy/sample"
)

// beside is an error, or one that there is not, if something else is answered beside it.
func beside(why api.Errno, nothing bool) api.Errno {
	if why != api.OK && !nothing {
		return 99
	}
	return why
}

func zero(r api.Registry) bool { return r.Definitions == nil && r.Elements == nil }

func zeroDefinition(d api.Definition) bool {
	return d.Observed == nil && sample.SameDefinition(d, api.Definition{})
}

// errorsAlone are the errors of all calls that are handed no forest, with arguments of which each is wrong, too.
func errorsAlone(r api.Registry) map[string]api.Errno {
	more, defineWhy := custom.Define(r, api.Definition{})
	d, is, getWhy := custom.Get(r, "x-a")
	looked, found, lookWhy := custom.Look(r, api.SpaceHTML, "x-a", "x-b")
	set, setWhy := custom.Set(r, -1, api.StateCount, "z")
	e, ofWhy := custom.Of(r, 2)
	return map[string]api.Errno{
		"Check":  custom.Check(r),
		"Define": beside(defineWhy, zero(more)),
		"Get":    beside(getWhy, !is && zeroDefinition(d)),
		"Look":   beside(lookWhy, !found && zeroDefinition(looked)),
		"Set":    beside(setWhy, zero(set)),
		"Of":     beside(ofWhy, e == api.Custom{}),
	}
}

// errorsIn are the errors of all calls that are handed a forest.
func errorsIn(f api.Forest, r api.Registry, h int, name string) map[string]api.Errno {
	begun, beginWhy := custom.Begin(f, r, h, name)
	l, candWhy := custom.Candidates(f, r, h, name)
	return map[string]api.Errno{"Begin": beside(beginWhy, zero(begun)), "Candidates": beside(candWhy, l == nil)}
}

func wantAll(t *testing.T, what string, got map[string]api.Errno, want api.Errno) {
	t.Helper()
	for call, why := range got {
		if why != want {
			t.Errorf("%s: %s: error %d; want %d", what, call, why, want)
		}
	}
}

// behind has a definition behind the two.
func behind(d api.Definition) api.Registry {
	r := two()
	r.Definitions = append(r.Definitions, d)
	return r
}

// notRight are registries that are not right, each for one reason.
func notRight() map[string]api.Registry {
	return map[string]api.Registry{
		"too many definitions":         many(api.MaxDefinitions + 1),
		"too many elements":            {Elements: crowd(1, api.MaxNodes+1)},
		"no Name":                      behind(def("", "", 3)),
		"a Name without -":             behind(def("div", "div", 3)),
		"a Name like font-face":        behind(def("font-face", "font-face", 3)),
		"a Name with A to Z":           behind(def("X-c", "X-c", 3)),
		"a Name that is not UTF-8":     behind(def("x-\xff", "x-\xff", 3)),
		"a Name that is too long":      behind(def(long(api.MaxName+1), long(api.MaxName+1), 3)),
		"a long Name, a short Local":   behind(def(long(api.MaxName+1), "p", 3)),
		"no Local":                     behind(def("x-c", "", 3)),
		"another custom Local":         behind(def("x-c", "x-d", 3)),
		"another one's Name as Local":  behind(def("x-c", "x-a", 3)),
		"a Local that is too long":     behind(def("x-c", strings.Repeat("a", api.MaxName+1), 3)),
		"a custom Local, too long":     behind(def("x-c", long(api.MaxName+1), 3)),
		"no Constructor":               behind(def("x-c", "x-c", 0)),
		"a Name of two":                behind(def("x-b", "x-b", 3)),
		"a Name of two, of one Local":  behind(def("x-b", "button", 3)),
		"a Constructor of two":         behind(def("x-c", "x-c", 1)),
		"an Observed twice":            behind(def("x-c", "x-c", 3, "a", "b", "a")),
		"an empty Observed twice":      behind(def("x-c", "x-c", 3, "", "")),
		"too many Observed":            behind(def("x-c", "x-c", 3, attrs(api.MaxAttrs+1)...)),
		"an Observed that is too long": behind(def("x-c", "x-c", 3, "a", strings.Repeat("a", api.MaxName+1))),
		"the first one is not right":   {Definitions: append([]api.Definition{def("x-c", "", 3)}, two().Definitions...)},
		"a Node of 0":                  with(api.Custom{Node: 0}),
		"a Node below 0":               with(api.Custom{Node: -1}, api.Custom{Node: 2}),
		"the least Node":               with(api.Custom{Node: math.MinInt}),
		"one Node twice":               with(api.Custom{Node: 2}, api.Custom{Node: 2}),
		"Nodes that fall":              with(api.Custom{Node: 3}, api.Custom{Node: 2}),
		"Nodes that fall later":        with(api.Custom{Node: 1}, api.Custom{Node: 9}, api.Custom{Node: 8}),
		"a State that is none":         with(api.Custom{Node: 1, State: api.StateCount}),
		"such with a Definition":       with(api.Custom{Node: 1, State: api.StateCount, Definition: "x-a"}),
		"a State far from one":         with(api.Custom{Node: 1, State: 255}),
		"custom without one":           with(api.Custom{Node: 1, State: api.StateCustom}),
		"failed without one":           with(api.Custom{Node: 1, State: api.StateFailed}),
		"custom of none":               with(api.Custom{Node: 1, State: api.StateCustom, Definition: "x-c"}),
		"failed of none":               with(api.Custom{Node: 1, State: api.StateFailed, Definition: "button"}),
		"custom by its is":             with(api.Custom{Node: 1, State: api.StateCustom, Is: "x-b"}),
		"undefined with one":           with(api.Custom{Node: 1, State: api.StateUndefined, Definition: "x-a"}),
		"uncustomized with one":        with(api.Custom{Node: 1, Definition: "x-a"}),
		"uncustomized with none":       with(api.Custom{Node: 1, Definition: "x-z"}),
		"the last one alone":           with(api.Custom{Node: 1}, api.Custom{Node: 2, State: api.StateCustom, Definition: "x-a"}, api.Custom{Node: 3, State: api.StateCustom}),
	}
}

// 25.1: a registry that is not right is refused by each call, ahead of all but a forest that is not.
func TestNotRight(t *testing.T) {
	f := sample.Cast("a(x u)")
	for what, r := range notRight() {
		was := sample.CopyRegistry(r)
		wantAll(t, what, errorsAlone(r), api.ErrRange)
		for _, h := range []int{1, 2, 3, 0, -1, 99} {
			wantAll(t, what, errorsIn(f, r, h, "x-a"), api.ErrRange)
			wantAll(t, what, errorsIn(f, r, h, long(api.MaxName+1)), api.ErrRange)
		}
		for _, torn := range sample.Torn() {
			wantAll(t, what, errorsIn(torn, r, 1, "x-a"), api.ErrForest)
		}
		if !sample.SameRegistry(r, was) {
			t.Errorf("%s: what was handed in is changed", what)
		}
	}
}

// 25.1: a forest that is not right is refused ahead of all else.
func TestForestFirst(t *testing.T) {
	for _, f := range sample.Torn() {
		wantAll(t, "torn", errorsIn(f, two(), 1, "x-a"), api.ErrForest)
		wantAll(t, "torn, and more", errorsIn(f, api.Registry{}, -1, long(api.MaxName+1)), api.ErrForest)
	}
}

// 25.2: why a definition is refused, and which reason goes first.
func TestDefineErrors(t *testing.T) {
	tooMany, tooLong := attrs(api.MaxAttrs+1), strings.Repeat("a", api.MaxName+1)
	same := make([]string, api.MaxAttrs+1)
	full := many(api.MaxDefinitions)
	for _, x := range []struct {
		what string
		r    api.Registry
		d    api.Definition
		want api.Errno
	}{
		{"no Name", two(), def("", "", 3), api.ErrSyntax},
		{"a Name without -", two(), def("div", "div", 3), api.ErrSyntax},
		{"a Name like font-face", two(), def("font-face", "font-face", 3), api.ErrSyntax},
		{"a Name with A to Z", two(), def("x-A", "x-A", 3), api.ErrSyntax},
		{"a Name that begins with -", two(), def("-x", "-x", 3), api.ErrSyntax},
		{"a Name that is not UTF-8", two(), def("x-\xff", "x-\xff", 3), api.ErrSyntax},
		{"a Name that is too long", two(), def(long(api.MaxName+1), long(api.MaxName+1), 3), api.ErrSyntax},
		{"no Name, and all else", full, def("", "x-d", 1, tooMany...), api.ErrSyntax},
		{"no Name, and no Constructor", two(), def("button", "", 0), api.ErrSyntax},

		{"a Name that is there", two(), def("x-a", "x-a", 3), api.ErrUnsupported},
		{"a Name that is there, of another Local", two(), def("x-b", "x-b", 3), api.ErrUnsupported},
		{"such, and no Constructor", two(), def("x-a", "x-a", 0), api.ErrUnsupported},
		{"such, where there is no room", full, def("x-0", "x-0", 0, tooMany...), api.ErrUnsupported},
		{"a Constructor that is there", two(), def("x-c", "x-c", 2), api.ErrUnsupported},
		{"such, where there is no room", full, def("x-c", "x-c", api.MaxDefinitions, tooMany...), api.ErrUnsupported},

		{"no Local", two(), def("x-c", "", 3), api.ErrUnsupported},
		{"a Local that is too long", two(), def("x-c", tooLong, 3), api.ErrUnsupported},
		{"another custom Local", two(), def("x-c", "x-d", 3), api.ErrUnsupported},
		{"a Local that is another's Name", two(), def("x-c", "x-a", 3), api.ErrUnsupported},
		{"no Local, and no Constructor", two(), def("x-c", "", 0), api.ErrUnsupported},
		{"no Local, where there is no room", full, def("x-c", "", 0, tooMany...), api.ErrUnsupported},

		{"no Constructor", two(), def("x-c", "x-c", 0), api.ErrType},
		{"no Constructor, of a built-in one", api.Registry{}, def("x-c", "p", 0), api.ErrType},
		{"no Constructor, and too many Observed", two(), def("x-c", "x-c", 0, tooMany...), api.ErrType},
		{"no Constructor, where there is no room", full, def("x-c", "x-c", 0), api.ErrType},

		{"too many Observed", two(), def("x-c", "x-c", 3, tooMany...), api.ErrMany},
		{"one too many times", two(), def("x-c", "x-c", 3, same...), api.ErrMany},
		{"an Observed that is too long", two(), def("x-c", "x-c", 3, "a", tooLong), api.ErrMany},
		{"no room", full, def("x-c", "x-c", -1), api.ErrMany},
		{"no room, and too many Observed", full, def("x-c", "x-c", -1, tooMany...), api.ErrMany},
	} {
		r, why := custom.Define(x.r, x.d)
		if beside(why, zero(r)) != x.want {
			t.Errorf("%s: error %d; want %d", x.what, why, x.want)
		}
	}
}

// 25.3: why an element does not begin, and which reason goes first.
func TestBeginErrors(t *testing.T) {
	f := sample.Cast("a(x # -) ? ~(x)")
	tooLong := long(api.MaxName + 1)
	among, full := with(api.Custom{Node: 3}), with(crowd(3, api.MaxNodes)...)
	for _, x := range []struct {
		what string
		r    api.Registry
		h    int
		is   string
		want api.Errno
	}{
		{"no node", two(), 0, "", api.ErrRange}, {"below 0", two(), -1, "", api.ErrRange}, {"beyond", two(), 9, "", api.ErrRange},
		{"far beyond", two(), math.MaxInt, "", api.ErrRange}, {"far below", two(), math.MinInt, "", api.ErrRange},
		{"beyond, and more", with(crowd(9, api.MaxNodes)...), 9, tooLong, api.ErrRange},
		{"a document", two(), 1, "", api.ErrType}, {"a text", two(), 4, "", api.ErrType}, {"a comment", two(), 5, "", api.ErrType},
		{"an instruction", two(), 6, "x-a", api.ErrType}, {"a fragment", two(), 7, "", api.ErrType}, {"a text, and more", full, 4, tooLong, api.ErrType},
		{"an is that is too long", two(), 3, tooLong, api.ErrLong}, {"such of one that is there", among, 3, tooLong, api.ErrLong},
		{"such, where there is no room", full, 2, tooLong, api.ErrLong},
		{"it is there", among, 3, "", api.ErrState}, {"it is there, with an is", among, 3, "x-a", api.ErrState}, {"it is there, and no room", full, 3, "", api.ErrState},
		{"no room", full, 2, "", api.ErrMany}, {"no room for an is", with(crowd(100, api.MaxNodes)...), 3, "x-a", api.ErrMany},
	} {
		r, why := custom.Begin(f, x.r, x.h, x.is)
		if beside(why, zero(r)) != x.want {
			t.Errorf("%s: error %d; want %d", x.what, why, x.want)
		}
	}
	if r, why := custom.Begin(api.Forest{}, two(), 1, ""); why != api.ErrRange || !zero(r) {
		t.Error("of no nodes:", why)
	}
}

// 25.3: why an element does not come further, and which reason goes first.
func TestSetErrors(t *testing.T) {
	r := with(api.Custom{Node: 3}, api.Custom{Node: 5, State: api.StateCustom, Definition: "x-a"})
	for _, x := range []struct {
		what string
		h    int
		s    api.CustomState
		name string
		want api.Errno
	}{
		{"not among them", 4, api.StateUndefined, "", api.ErrNotFound}, {"none", 0, api.StateCustom, "x-a", api.ErrNotFound},
		{"below 0", -3, api.StateUncustomized, "", api.ErrNotFound}, {"beyond", math.MaxInt, api.StateCount, "z", api.ErrNotFound},
		{"not among them, and more", 4, api.StateCount, "x-a", api.ErrNotFound},
		{"a state that is none", 3, api.StateCount, "", api.ErrType}, {"far from one", 5, 255, "x-a", api.ErrType}, {"such, of no definition", 3, api.StateCount, "x-z", api.ErrType},
		{"custom of none", 3, api.StateCustom, "", api.ErrNotFound}, {"custom of none", 5, api.StateCustom, "x-z", api.ErrNotFound}, {"of a Local", 5, api.StateCustom, "button", api.ErrNotFound},
		{"failed of none", 3, api.StateFailed, "", api.ErrNotFound}, {"failed of none", 5, api.StateFailed, "x-z", api.ErrNotFound},
		{"undefined, with one", 3, api.StateUndefined, "x-a", api.ErrType}, {"with none", 5, api.StateUndefined, "x-z", api.ErrType},
		{"uncustomized, with one", 5, api.StateUncustomized, "x-a", api.ErrType}, {"with none", 3, api.StateUncustomized, "x-z", api.ErrType},
	} {
		set, why := custom.Set(r, x.h, x.s, x.name)
		if beside(why, zero(set)) != x.want {
			t.Errorf("%s: error %d; want %d", x.what, why, x.want)
		}
	}
	if set, why := custom.Set(api.Registry{}, 1, api.StateUndefined, ""); why != api.ErrNotFound || !zero(set) {
		t.Error("of no elements:", why)
	}
}

// 25.4: why there are no candidates, and which reason goes first.
func TestCandidatesErrors(t *testing.T) {
	f := sample.Cast("x(x{x}) ~")
	for _, x := range []struct {
		doc  int
		name string
		want api.Errno
	}{
		{0, "x-a", api.ErrRange}, {-1, "x-a", api.ErrRange}, {7, "x-a", api.ErrRange}, {math.MaxInt, "x-z", api.ErrRange}, {math.MinInt, "", api.ErrRange},
		{2, "x-a", api.ErrType}, {4, "x-a", api.ErrType}, {6, "x-a", api.ErrType}, {3, "x-z", api.ErrType},
		{1, "x-z", api.ErrNotFound}, {1, "", api.ErrNotFound}, {1, "button", api.ErrNotFound}, {1, "X-A", api.ErrNotFound}, {1, long(api.MaxName + 1), api.ErrNotFound},
	} {
		l, why := custom.Candidates(f, two(), x.doc, x.name)
		if beside(why, l == nil) != x.want {
			t.Errorf("Candidates(%d, %s): error %d; want %d", x.doc, x.name, why, x.want)
		}
	}
	if l, why := custom.Candidates(f, api.Registry{}, 1, "x-a"); why != api.ErrNotFound || l != nil {
		t.Error("of no definitions:", why)
	}
	if l, why := custom.Candidates(api.Forest{}, two(), 1, "x-a"); why != api.ErrRange || l != nil {
		t.Error("of no nodes:", why)
	}
}

// 25.1 to 25.4: nothing panics, and nothing takes long, where what is handed in is far too great.
func TestFarTooGreat(t *testing.T) {
	long := strings.Repeat("x-", 1<<22)
	huge := make([]string, 1<<16)
	for what, d := range map[string]api.Definition{
		"Name": def(long, long, 3), "Local": def("x-c", long, 3), "Observed": def("x-c", "x-c", 3, huge...), "one Observed": def("x-c", "x-c", 3, long),
	} {
		wantAll(t, what, errorsAlone(behind(d)), api.ErrRange)
		if r, why := custom.Define(two(), d); why == api.OK || !zero(r) {
			t.Errorf("%s: error %d", what, why)
		}
	}
	wantAll(t, "definitions", errorsAlone(api.Registry{Definitions: make([]api.Definition, 1<<16)}), api.ErrRange)
	wantAll(t, "elements", errorsAlone(api.Registry{Elements: crowd(1, 1<<18)}), api.ErrRange)
}
