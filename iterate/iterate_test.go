package iterate_test

import (
	"slices"
	"testing"

	"canopy/api"
	"canopy/forest"
	"canopy/iterate"
	"canopy/sample"
)

// The tree that most tests here go through; its letters are its handles' names, in order.
const family = "a(b(c d) e(f(g h) i) j)"

// handle is that of a letter's node: / is the document, - is none.
func handle(letter string) int {
	switch letter {
	case "-":
		return 0
	case "/":
		return 1
	}
	return int(letter[0]-'a') + 2
}

func showAll() api.Filter { return api.Filter{Show: api.ShowAll} }

// sayings is a filter that skips the nodes of some letters, and rejects those of others.
func sayings(skip, reject string) api.Filter {
	t := showAll()
	for _, r := range skip {
		t.Rules = append(t.Rules, api.Rule{Local: string(r), Verdict: api.VerdictSkip})
	}
	for _, r := range reject {
		t.Rules = append(t.Rules, api.Rule{Local: string(r), Verdict: api.VerdictReject})
	}
	return t
}

func same(a, b api.Iterator) bool {
	return a.Root == b.Root && a.Ref == b.Ref && a.Before == b.Before &&
		a.Filter.Show == b.Filter.Show && slices.Equal(a.Filter.Rules, b.Filter.Rules)
}

// stand is an iterator of some letters: > is ahead of the Ref, < behind it.
func stand(root, side, ref string, flt api.Filter) api.Iterator {
	return api.Iterator{Root: handle(root), Ref: handle(ref), Before: side == ">", Filter: flt}
}

// Chapter 14, the first example.
func TestExample(t *testing.T) {
	f := sample.Tree("a")
	for range 2 {
		f.Nodes = append(f.Nodes, api.Node{Kind: api.KindText, Doc: 1, Parent: 2})
		f.Nodes[1].Kids = append(f.Nodes[1].Kids, len(f.Nodes))
	}
	it, why := iterate.New(f, 1, showAll())
	if why != api.OK || !same(it, api.Iterator{Root: 1, Ref: 1, Before: true, Filter: showAll()}) {
		t.Errorf("New: %+v, error %d", it, why)
	}
	for _, want := range []int{1, 2, 3, 4, 0} {
		var h int
		if it, h, why = iterate.Next(f, it); why != api.OK || h != want {
			t.Errorf("Next: %d, error %d; want %d", h, why, want)
		}
	}
	behind := api.Iterator{Root: 1, Ref: 3, Filter: showAll()}
	if got, why := iterate.Removing(f, behind, 3); why != api.OK || got.Ref != 2 || got.Before {
		t.Errorf("behind 3: %+v, error %d", got, why)
	}
	ahead := api.Iterator{Root: 1, Ref: 3, Before: true, Filter: showAll()}
	if got, why := iterate.Removing(f, ahead, 3); why != api.OK || got.Ref != 4 || !got.Before {
		t.Errorf("ahead of 3: %+v, error %d", got, why)
	}
}

// P14.1: a new iterator stands ahead of its root, whatever the filter says of that, and is right.
func TestNew(t *testing.T) {
	f := sample.Tree(family)
	for i := range f.Nodes {
		for _, flt := range []api.Filter{{}, showAll(), {Show: 4}, sayings("ab", "cd"), sayings("", "abcdefghij")} {
			it, why := iterate.New(f, i+1, flt)
			if why != api.OK || !same(it, api.Iterator{Root: i + 1, Ref: i + 1, Before: true, Filter: flt}) {
				t.Errorf("New at %d: %+v, error %d", i+1, it, why)
			}
			if why := iterate.Check(f, it); why != api.OK {
				t.Errorf("New at %d: Check: %d", i+1, why)
			}
		}
	}
}

// turn is a Next or a Prev through the family: where it begins, and where it must end.
type turn struct{ root, side, ref, skip, reject, wantSide, want string }

func wantTurns(t *testing.T, move func(api.Forest, api.Iterator) (api.Iterator, int, api.Errno), turns []turn) {
	t.Helper()
	f := sample.Tree(family)
	for _, x := range turns {
		it := stand(x.root, x.side, x.ref, sayings(x.skip, x.reject))
		want := it
		if x.want != "-" {
			want = stand(x.root, x.wantSide, x.want, it.Filter)
		}
		got, h, why := move(f, it)
		if why != api.OK || h != handle(x.want) || !same(got, want) {
			t.Errorf("%+v: %+v, %d, error %d; want %d", x, got, h, why, handle(x.want))
		}
	}
}

// P14.2: Next tells the first node that is accepted from where it stands on, and stands behind it; none behind the last of its nodes.
func TestNext(t *testing.T) {
	wantTurns(t, iterate.Next, []turn{
		{"a", ">", "a", "", "", "<", "a"},
		{"a", "<", "a", "", "", "<", "b"},
		{"a", ">", "b", "", "", "<", "b"},
		{"a", "<", "b", "", "", "<", "c"},
		{"a", "<", "d", "", "", "<", "e"},
		{"a", "<", "h", "", "", "<", "i"},
		{"a", "<", "i", "", "", "<", "j"},
		{"a", ">", "j", "", "", "<", "j"},
		{"a", "<", "j", "", "", "", "-"},
		{"/", ">", "/", "", "", "<", "/"},
		{"/", "<", "j", "", "", "", "-"},
		// what is rejected is passed over by itself: what lies within it is not
		{"a", ">", "a", "a", "", "<", "b"},
		{"a", ">", "a", "", "a", "<", "b"},
		{"a", "<", "a", "", "b", "<", "c"},
		{"a", "<", "a", "b", "", "<", "c"},
		{"a", ">", "b", "bcd", "", "<", "e"},
		{"a", "<", "d", "", "efg", "<", "h"},
		{"a", "<", "d", "efghi", "", "<", "j"},
		{"a", "<", "d", "efghij", "", "", "-"},
		{"a", ">", "d", "def", "ghij", "", "-"},
		{"a", ">", "j", "j", "", "", "-"},
		// its nodes end where the root does
		{"b", ">", "b", "", "", "<", "b"},
		{"b", ">", "d", "", "", "<", "d"},
		{"b", "<", "d", "", "", "", "-"},
		{"b", "<", "c", "d", "", "", "-"},
		{"c", ">", "c", "", "", "<", "c"},
		{"c", "<", "c", "", "", "", "-"},
		{"c", ">", "c", "c", "", "", "-"},
		{"e", "<", "h", "", "", "<", "i"},
		{"e", "<", "i", "", "", "", "-"},
		{"f", "<", "h", "", "", "", "-"},
	})
}

// P14.2: Prev tells the first node that is accepted from where it stands back, and stands ahead of it; none ahead of the root.
func TestPrev(t *testing.T) {
	wantTurns(t, iterate.Prev, []turn{
		{"a", ">", "a", "", "", "", "-"},
		{"a", "<", "a", "", "", ">", "a"},
		{"a", ">", "b", "", "", ">", "a"},
		{"a", "<", "b", "", "", ">", "b"},
		{"a", ">", "e", "", "", ">", "d"},
		{"a", ">", "f", "", "", ">", "e"},
		{"a", ">", "i", "", "", ">", "h"},
		{"a", ">", "j", "", "", ">", "i"},
		{"a", "<", "j", "", "", ">", "j"},
		{"/", ">", "a", "", "", ">", "/"},
		{"/", ">", "/", "", "", "", "-"},
		{"a", "<", "a", "a", "", "", "-"},
		{"a", ">", "b", "a", "", "", "-"},
		{"a", ">", "b", "", "a", "", "-"},
		{"a", "<", "b", "b", "", ">", "a"},
		{"a", "<", "h", "", "h", ">", "g"},
		{"a", "<", "g", "", "fg", ">", "e"},
		{"a", "<", "j", "j", "ie", ">", "h"},
		{"a", "<", "j", "jihgfedcb", "", ">", "a"},
		{"a", "<", "j", "jihgfedcba", "", "", "-"},
		{"a", "<", "j", "j", "e", ">", "i"},
		{"e", ">", "e", "", "", "", "-"},
		{"e", ">", "f", "", "", ">", "e"},
		{"e", ">", "f", "e", "", "", "-"},
		{"e", "<", "e", "", "", ">", "e"},
		{"c", "<", "c", "", "", ">", "c"},
		{"c", ">", "c", "", "", "", "-"},
		{"d", ">", "d", "", "", "", "-"},
	})
}

// Words: what is accepted goes by the kinds that are shown, a shadow root by the fragment's bit, and by rules of any kind and name.
func TestShown(t *testing.T) {
	f := forest.New(false)
	f.Nodes[0].Kids = []int{2, 3, 4, 5}
	for _, n := range []api.Node{
		{Kind: api.KindInstruction, Name: api.Name{Local: "p"}, Parent: 1},
		{Kind: api.KindDoctype, Name: api.Name{Local: "d"}, Parent: 1},
		{Kind: api.KindComment, Parent: 1},
		{Kind: api.KindElement, Name: api.Name{Space: "u", Prefix: "p", Local: "e"}, Parent: 1, Kids: []int{6, 7}, Shadow: 8},
		{Kind: api.KindText, Parent: 5, Data: api.Units{'a'}},
		{Kind: api.KindCData, Parent: 5},
		{Kind: api.KindShadow, Host: 5, Mode: api.ShadowClosed, Kids: []int{9}},
		{Kind: api.KindText, Parent: 8},
		{Kind: api.KindFragment, Kids: []int{11}},
		{Kind: api.KindElement, Name: api.Name{Local: "host"}, Parent: 10},
	} {
		n.Doc = 1
		f.Nodes = append(f.Nodes, n)
	}
	if why, at := forest.Check(f); why != api.OK {
		t.Fatalf("the test's own forest is not right: at %d", at)
	}
	bit := func(k api.NodeKind) uint32 { return 1 << (k - 1) }
	reject := func(k api.NodeKind, local string) []api.Rule {
		return []api.Rule{{Kind: k, Local: local, Verdict: api.VerdictReject}}
	}
	for _, x := range []struct {
		root int
		flt  api.Filter
		want []int
	}{
		{1, showAll(), []int{1, 2, 3, 4, 5, 6, 7}},
		{1, api.Filter{}, nil},
		{1, api.Filter{Show: bit(api.KindDocument)}, []int{1}},
		{1, api.Filter{Show: bit(api.KindInstruction) | bit(api.KindText)}, []int{2, 6}},
		{1, api.Filter{Show: bit(api.KindDoctype) | bit(api.KindCData)}, []int{3, 7}},
		{1, api.Filter{Show: bit(api.KindComment) | bit(api.KindElement)}, []int{4, 5}},
		{1, api.Filter{Show: bit(api.KindFragment) | bit(api.KindShadow)}, nil},
		{8, showAll(), []int{8, 9}},
		{8, api.Filter{Show: bit(api.KindFragment)}, []int{8}},
		{8, api.Filter{Show: bit(api.KindShadow)}, nil},
		{8, api.Filter{Show: bit(api.KindText)}, []int{9}},
		{8, api.Filter{Show: api.ShowAll, Rules: reject(api.KindShadow, "")}, []int{9}},
		{8, api.Filter{Show: api.ShowAll, Rules: reject(api.KindFragment, "")}, []int{8, 9}},
		{8, api.Filter{Show: api.ShowAll, Rules: reject(0, "host")}, []int{8, 9}},
		{10, api.Filter{Show: bit(api.KindFragment)}, []int{10}},
		{10, api.Filter{Show: api.ShowAll, Rules: reject(0, "host")}, []int{10}},
		{1, api.Filter{Show: api.ShowAll, Rules: reject(0, "e")}, []int{1, 2, 3, 4, 6, 7}},
		{1, api.Filter{Show: api.ShowAll, Rules: reject(0, "p")}, []int{1, 3, 4, 5, 6, 7}},
		{1, api.Filter{Show: api.ShowAll, Rules: reject(0, "d")}, []int{1, 2, 4, 5, 6, 7}},
		{1, api.Filter{Show: api.ShowAll, Rules: reject(api.KindDocument, "")}, []int{2, 3, 4, 5, 6, 7}},
		{1, api.Filter{Show: api.ShowAll, Rules: reject(0, "")}, nil},
		{1, api.Filter{Show: api.ShowAll, Rules: append([]api.Rule{{Local: "e", Verdict: api.VerdictAccept}}, reject(0, "")...)}, []int{5}},
	} {
		it, why := iterate.New(f, x.root, x.flt)
		if why != api.OK {
			t.Fatalf("%+v: error %d", x, why)
		}
		wantAllNext(t, f, it, x.want)
	}
}

// wantAllNext sees what Next tells till there is none, and that it is none again.
func wantAllNext(t *testing.T, f api.Forest, it api.Iterator, want []int) api.Iterator {
	t.Helper()
	for _, h := range append(slices.Clone(want), 0, 0) {
		next, got, why := iterate.Next(f, it)
		if why != api.OK || got != h {
			t.Fatalf("Next of %+v: %d, error %d; want %d of %v", it, got, why, h, want)
		}
		it = next
	}
	return it
}
