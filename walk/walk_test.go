package walk_test

import (
	"slices"
	"testing"

	"canopy/api"
	"canopy/forest"
	"canopy/sample"
	"canopy/walk"
)

// The tree that most tests here go through; its letters are its handles' names, in order.
const family = "a(b(c d) e(f(g h) i) j)"

// handle is that of a letter's node: / is the document, - is none.
func handle(letter string) int {
	switch letter {
	case "-":
		return 0
	case "/":
		return 1
	}
	return int(letter[0]-'a') + 2
}

// sayings is a filter that skips the nodes of some letters, and rejects those of others.
func sayings(skip, reject string) api.Filter {
	t := api.Filter{Show: api.ShowAll}
	say := func(letters string, v api.Verdict) {
		for _, r := range letters {
			if r == '/' {
				t.Rules = append(t.Rules, api.Rule{Kind: api.KindDocument, Verdict: v})
			} else {
				t.Rules = append(t.Rules, api.Rule{Local: string(r), Verdict: v})
			}
		}
	}
	say(skip, api.VerdictSkip)
	say(reject, api.VerdictReject)
	return t
}

// trip is a step through the family, and where it must lead.
type trip struct{ root, from, skip, reject, want string }

func wantTrips(t *testing.T, way api.Way, trips []trip) {
	t.Helper()
	f := sample.Tree(family)
	for _, x := range trips {
		w := api.Walker{Root: handle(x.root), Current: handle(x.from), Filter: sayings(x.skip, x.reject)}
		got, h, why := walk.Step(f, w, way)
		if why != api.OK || h != handle(x.want) {
			t.Errorf("way %d, %+v: %d, error %d; want %d", way, x, h, why, handle(x.want))
		}
		at := handle(x.want)
		if at == 0 {
			at = handle(x.from)
		}
		if got.Root != w.Root || got.Current != at || !sameFilter(got.Filter, w.Filter) {
			t.Errorf("way %d, %+v: the walker is %+v", way, x, got)
		}
	}
}

// Chapter 13, the first example.
func TestExample(t *testing.T) {
	f := sample.Tree("a(b c)")
	w, why := walk.New(f, 2, api.Filter{Show: api.ShowAll})
	if why != api.OK || w.Root != 2 || w.Current != 2 || w.Filter.Show != api.ShowAll || len(w.Filter.Rules) != 0 {
		t.Errorf("New: %+v, error %d", w, why)
	}
	for _, x := range []struct {
		way  api.Way
		want int
	}{{api.WayFirst, 3}, {api.WayBehind, 4}, {api.WayParent, 2}} {
		var h int
		if w, h, why = walk.Step(f, w, x.way); why != api.OK || h != x.want || w.Current != x.want {
			t.Errorf("way %d: %d, %+v, error %d", x.way, h, w, why)
		}
	}
	if l, why := walk.All(f, w, api.WayOn); why != api.OK || !slices.Equal(l, []int{3, 4}) {
		t.Errorf("all the way on: %v, error %d", l, why)
	}
	w.Filter.Rules = []api.Rule{{Kind: api.KindElement, Local: "b", Verdict: api.VerdictReject}}
	if _, h, why := walk.Step(f, w, api.WayFirst); why != api.OK || h != 4 {
		t.Errorf("b is rejected: %d, error %d", h, why)
	}
}

// 13.1: a new walker stands at its root, whatever the filter says of that, and has the filter.
func TestNew(t *testing.T) {
	f := sample.Tree(family)
	for i := range f.Nodes {
		for _, flt := range []api.Filter{{}, {Show: 4}, sayings("ab", "cd"), sayings("", "abcdefghij/")} {
			w, why := walk.New(f, i+1, flt)
			if why != api.OK || w.Root != i+1 || w.Current != i+1 || !sameFilter(w.Filter, flt) {
				t.Errorf("New at %d: %+v, error %d", i+1, w, why)
			}
		}
	}
}

// Words: to the first one above that is accepted, the root at most.
func TestParent(t *testing.T) {
	wantTrips(t, api.WayParent, []trip{
		{"a", "a", "", "", "-"},
		{"a", "b", "", "", "a"},
		{"a", "j", "", "", "a"},
		{"a", "c", "", "", "b"},
		{"a", "g", "", "", "f"},
		{"a", "g", "f", "", "e"},
		{"a", "g", "", "f", "e"},
		{"a", "g", "e", "f", "a"},
		{"a", "g", "f", "ea", "-"},
		{"a", "b", "a", "", "-"},
		{"a", "g", "g", "", "f"},
		{"a", "g", "", "g", "f"},
		{"/", "a", "", "", "/"},
		{"/", "/", "", "", "-"},
		{"/", "g", "feab", "", "/"},
		// the root is not above: a walker that stands outside goes up to the end
		{"b", "b", "", "", "-"},
		{"b", "g", "", "", "f"},
		{"b", "g", "fea", "", "/"},
		{"b", "g", "fea", "/", "-"},
		{"g", "e", "", "", "a"},
		{"g", "/", "", "", "-"},
	})
}

// Words: to the first kid, through what is skipped, past what is rejected.
func TestFirst(t *testing.T) {
	wantTrips(t, api.WayFirst, []trip{
		{"a", "a", "", "", "b"},
		{"a", "c", "", "", "-"},
		{"a", "j", "", "", "-"},
		{"a", "b", "", "", "c"},
		{"a", "e", "", "", "f"},
		{"a", "e", "e", "", "f"},
		{"a", "e", "", "e", "f"},
		{"a", "e", "f", "", "g"},
		{"a", "e", "", "f", "i"},
		{"a", "e", "f", "g", "h"},
		{"a", "e", "fgh", "", "i"},
		{"a", "e", "f", "gh", "i"},
		{"a", "e", "f", "ghi", "-"},
		{"a", "e", "fghi", "", "-"},
		{"a", "a", "b", "", "c"},
		{"a", "a", "bcd", "", "e"},
		{"a", "a", "e", "b", "f"},
		{"a", "a", "ef", "b", "g"},
		{"a", "a", "efghi", "b", "j"},
		{"a", "a", "", "be", "j"},
		{"a", "a", "", "bej", "-"},
		{"a", "a", "bcdefghij", "", "-"},
		// outside the root, and with the root below
		{"b", "e", "", "", "f"},
		{"b", "/", "", "", "a"},
		{"f", "e", "", "", "f"},
		{"f", "e", "f", "", "g"},
		{"f", "e", "", "f", "i"},
		{"f", "e", "f", "gh", "-"},
		{"f", "a", "bef", "cdgh", "-"},
		{"e", "a", "befgh", "cdi", "-"},
		{"c", "b", "c", "", "d"},
		{"d", "b", "d", "c", "-"},
		{"d", "a", "bd", "c", "e"},
	})
}

// Words: the same from behind.
func TestLast(t *testing.T) {
	wantTrips(t, api.WayLast, []trip{
		{"a", "a", "", "", "j"},
		{"a", "d", "", "", "-"},
		{"a", "b", "", "", "d"},
		{"a", "e", "", "", "i"},
		{"a", "e", "", "i", "f"},
		{"a", "e", "i", "", "f"},
		{"a", "e", "if", "", "h"},
		{"a", "e", "if", "h", "g"},
		{"a", "e", "i", "f", "-"},
		{"a", "e", "ifhg", "", "-"},
		{"a", "a", "e", "j", "i"},
		{"a", "a", "jei", "", "f"},
		{"a", "a", "jeif", "gh", "b"},
		{"a", "a", "j", "e", "b"},
		{"a", "a", "jb", "e", "d"},
		{"a", "a", "jb", "edc", "-"},
		// outside the root, and with the root below
		{"b", "e", "", "", "i"},
		{"f", "e", "i", "", "f"},
		{"f", "e", "if", "gh", "-"},
		{"f", "a", "jeif", "gh", "-"},
		{"f", "a", "jei", "f", "b"},
		{"e", "a", "je", "if", "-"},
		{"i", "e", "i", "", "f"},
	})
}

// Words: to what stands behind, or within what is skipped there; up through what is not accepted.
func TestBehind(t *testing.T) {
	wantTrips(t, api.WayBehind, []trip{
		{"a", "a", "", "", "-"},
		{"a", "b", "", "", "e"},
		{"a", "c", "", "", "d"},
		{"a", "d", "", "", "-"},
		{"a", "j", "", "", "-"},
		{"a", "e", "", "", "j"},
		{"a", "d", "b", "", "e"},
		{"a", "d", "", "b", "e"},
		{"a", "d", "be", "", "f"},
		{"a", "d", "bef", "", "g"},
		{"a", "d", "bef", "g", "h"},
		{"a", "d", "be", "f", "i"},
		{"a", "d", "b", "e", "j"},
		{"a", "d", "befghi", "", "j"},
		{"a", "d", "b", "ej", "-"},
		{"a", "b", "", "e", "j"},
		{"a", "b", "e", "f", "i"},
		{"a", "b", "e", "fi", "j"},
		{"a", "b", "e", "fij", "-"},
		{"a", "h", "", "", "-"},
		{"a", "h", "f", "", "i"},
		{"a", "h", "", "f", "i"},
		{"a", "h", "f", "i", "-"},
		{"a", "h", "fe", "i", "j"},
		{"a", "h", "feij", "", "-"},
		{"/", "j", "", "", "-"},
		{"/", "j", "a", "", "-"},
		{"e", "e", "", "", "-"},
		{"f", "h", "f", "", "-"},
		{"e", "h", "fi", "", "-"},
		{"e", "i", "e", "", "-"},
		// outside the root: it may be come to from ahead
		{"e", "b", "", "", "e"},
		{"e", "b", "e", "", "f"},
		{"e", "b", "e", "fi", "-"},
		{"e", "b", "", "e", "j"},
		{"f", "b", "efgh", "", "-"},
		{"f", "b", "e", "f", "i"},
		{"i", "h", "fi", "", "-"},
		{"i", "h", "fie", "", "j"},
		{"c", "i", "", "", "-"},
		{"c", "i", "e", "", "j"},
		{"c", "/", "", "", "-"},
		{"c", "a", "/", "", "-"},
	})
}

// Words: the same, to what stands ahead.
func TestAhead(t *testing.T) {
	wantTrips(t, api.WayAhead, []trip{
		{"a", "a", "", "", "-"},
		{"a", "e", "", "", "b"},
		{"a", "d", "", "", "c"},
		{"a", "c", "", "", "-"},
		{"a", "f", "", "", "-"},
		{"a", "b", "", "", "-"},
		{"a", "f", "e", "", "b"},
		{"a", "f", "", "e", "b"},
		{"a", "f", "eb", "", "d"},
		{"a", "f", "eb", "d", "c"},
		{"a", "f", "e", "b", "-"},
		{"a", "g", "f", "", "-"},
		{"a", "g", "fe", "", "b"},
		{"a", "j", "", "", "e"},
		{"a", "j", "", "e", "b"},
		{"a", "j", "e", "", "i"},
		{"a", "j", "ei", "", "f"},
		{"a", "j", "eif", "", "h"},
		{"a", "j", "eif", "h", "g"},
		{"a", "j", "ei", "f", "b"},
		{"a", "j", "eifghb", "", "d"},
		{"a", "j", "", "eb", "-"},
		{"/", "b", "", "", "-"},
		{"/", "b", "a", "", "-"},
		{"f", "g", "f", "", "-"},
		// outside the root: it may be come to from behind
		{"e", "j", "", "", "e"},
		{"e", "j", "e", "if", "-"},
		{"e", "j", "", "e", "b"},
		{"f", "j", "eifgh", "", "-"},
		{"f", "j", "ei", "f", "b"},
		{"g", "f", "e", "", "b"},
		{"c", "a", "/", "", "-"},
	})
}

// Words: to the node behind in tree order, past what is rejected; not out of the root.
func TestOn(t *testing.T) {
	wantTrips(t, api.WayOn, []trip{
		{"a", "a", "", "", "b"},
		{"a", "b", "", "", "c"},
		{"a", "c", "", "", "d"},
		{"a", "d", "", "", "e"},
		{"a", "h", "", "", "i"},
		{"a", "i", "", "", "j"},
		{"a", "j", "", "", "-"},
		{"a", "a", "b", "", "c"},
		{"a", "a", "", "b", "e"},
		{"a", "b", "", "b", "c"},
		{"a", "a", "", "a", "b"},
		{"a", "a", "a", "", "b"},
		{"a", "a", "bcd", "", "e"},
		{"a", "b", "", "cd", "e"},
		{"a", "d", "", "e", "j"},
		{"a", "d", "e", "f", "i"},
		{"a", "d", "ef", "g", "h"},
		{"a", "h", "", "i", "j"},
		{"a", "h", "", "ij", "-"},
		{"a", "h", "ij", "", "-"},
		{"a", "a", "bcdefghij", "", "-"},
		{"a", "a", "", "bej", "-"},
		{"b", "d", "", "", "-"},
		{"b", "b", "cd", "", "-"},
		{"c", "c", "", "", "-"},
		{"e", "h", "", "", "i"},
		{"e", "i", "", "", "-"},
		{"f", "h", "", "", "-"},
		// outside the root: it may be come to from ahead, and ends the way
		{"b", "e", "", "", "f"},
		{"b", "j", "", "", "-"},
		{"b", "/", "", "", "a"},
		{"e", "d", "", "", "e"},
		{"e", "d", "e", "", "f"},
		{"e", "d", "e", "fi", "-"},
		{"e", "d", "", "e", "-"},
		{"c", "b", "c", "", "-"},
		{"c", "b", "", "c", "-"},
		{"d", "/", "abcd", "", "-"},
	})
}

// Words: to the node ahead in tree order, past what is rejected, up to the root.
func TestBack(t *testing.T) {
	wantTrips(t, api.WayBack, []trip{
		{"a", "a", "", "", "-"},
		{"a", "b", "", "", "a"},
		{"a", "c", "", "", "b"},
		{"a", "d", "", "", "c"},
		{"a", "e", "", "", "d"},
		{"a", "f", "", "", "e"},
		{"a", "i", "", "", "h"},
		{"a", "j", "", "", "i"},
		{"a", "b", "a", "", "-"},
		{"a", "b", "", "a", "-"},
		{"a", "e", "", "b", "a"},
		{"a", "e", "d", "", "c"},
		{"a", "e", "", "d", "c"},
		{"a", "e", "cd", "", "b"},
		{"a", "c", "b", "", "a"},
		{"a", "c", "", "b", "a"},
		{"a", "j", "", "i", "h"},
		{"a", "j", "", "if", "e"},
		{"a", "j", "i", "hg", "f"},
		{"a", "j", "", "e", "d"},
		{"a", "j", "ihgfedcb", "", "a"},
		{"a", "j", "ihgfedcba", "", "-"},
		{"a", "j", "", "eba", "-"},
		{"a", "h", "", "f", "g"},
		{"a", "g", "", "f", "e"},
		{"e", "f", "", "", "e"},
		{"e", "f", "e", "", "-"},
		{"e", "e", "", "", "-"},
		// outside the root: it may be come to from behind, and ends the way, unless it is rejected
		{"e", "j", "", "", "i"},
		{"e", "j", "ihgf", "", "e"},
		{"e", "j", "ihgfe", "", "-"},
		{"e", "j", "", "e", "d"},
		{"i", "j", "i", "", "h"},
		{"c", "d", "", "", "c"},
		{"c", "d", "c", "", "-"},
		{"c", "d", "", "c", "-"},
		{"c", "e", "", "", "d"},
		{"c", "a", "", "", "/"},
		{"c", "a", "/", "", "-"},
		{"c", "/", "", "", "-"},
	})
}

// 13.2: All are the nodes of steps that are taken one behind the other, till there is none.
func TestAll(t *testing.T) {
	f := sample.Tree(family)
	for _, x := range []struct {
		way                      api.Way
		root, from, skip, reject string
		want                     string
	}{
		{api.WayParent, "a", "g", "", "", "fea"},
		{api.WayParent, "a", "g", "e", "", "fa"},
		{api.WayFirst, "a", "a", "", "", "bc"},
		{api.WayFirst, "a", "a", "", "b", "efg"},
		{api.WayLast, "a", "a", "", "j", "ei"},
		{api.WayBehind, "a", "b", "", "", "ej"},
		{api.WayBehind, "a", "c", "be", "", "dfij"},
		{api.WayAhead, "a", "j", "", "", "eb"},
		{api.WayAhead, "a", "j", "eb", "", "ifdc"},
		{api.WayOn, "a", "a", "", "", "bcdefghij"},
		{api.WayOn, "a", "a", "e", "b", "fghij"},
		{api.WayOn, "e", "f", "", "", "ghi"},
		{api.WayBack, "a", "j", "", "", "ihgfedcba"},
		{api.WayBack, "a", "j", "e", "f", "idcba"},
		{api.WayOn, "a", "j", "", "", ""},
		{api.WayParent, "a", "a", "", "", ""},
	} {
		var want []int
		for _, r := range x.want {
			want = append(want, handle(string(r)))
		}
		w := api.Walker{Root: handle(x.root), Current: handle(x.from), Filter: sayings(x.skip, x.reject)}
		if l, why := walk.All(f, w, x.way); why != api.OK || !slices.Equal(l, want) {
			t.Errorf("%+v: %v, error %d; want %v", x, l, why, want)
		}
	}
}

// Words: shadow trees are not within their hosts: none goes into one, nor out of one.
func TestShadows(t *testing.T) {
	f := sample.Tree("a(b(c) d)")
	f.Nodes[2].Shadow = 6
	f.Nodes = append(f.Nodes,
		api.Node{Kind: api.KindShadow, Doc: 1, Host: 3, Mode: api.ShadowOpen, Kids: []int{7, 8}},
		api.Node{Kind: api.KindElement, Name: api.Name{Local: "x"}, Doc: 1, Parent: 6},
		api.Node{Kind: api.KindText, Doc: 1, Parent: 6})
	if why, at := forest.Check(f); why != api.OK {
		t.Fatalf("the test's own forest is not right: at %d", at)
	}
	for _, x := range []struct {
		way        api.Way
		root, from int
		want       []int
	}{
		{api.WayOn, 2, 2, []int{3, 4, 5}},
		{api.WayFirst, 2, 3, []int{4}},
		{api.WayOn, 6, 6, []int{7, 8}},
		{api.WayOn, 2, 6, []int{7, 8}},
		{api.WayBack, 6, 8, []int{7, 6}},
		{api.WayBack, 2, 8, []int{7, 6}},
		{api.WayParent, 2, 7, []int{6}},
		{api.WayParent, 6, 7, []int{6}},
		{api.WayBehind, 2, 6, nil},
		{api.WayAhead, 2, 8, []int{7}},
	} {
		w := api.Walker{Root: x.root, Current: x.from, Filter: api.Filter{Show: api.ShowAll}}
		if l, why := walk.All(f, w, x.way); why != api.OK || !slices.Equal(l, x.want) {
			t.Errorf("way %d from %d: %v, error %d; want %v", x.way, x.from, l, why, x.want)
		}
	}
}
