package path_test

import (
	"slices"
	"strconv"
	"strings"
	"testing"

	"canopy/api"
	"canopy/forest"
	"canopy/path"
	"canopy/sample"
)

func given(slot int, nodes ...int) api.Assign { return api.Assign{Slot: slot, Nodes: nodes} }

// tree is a forest that a text writes out: it is right.
func tree(t *testing.T, text string) api.Forest {
	t.Helper()
	f := sample.Tree(text)
	if why, at := forest.Check(f); why != api.OK {
		t.Fatalf("%s: error %d at %d", text, why, at)
	}
	return f
}

// written has each step as its Item, then letters for what it is: in a shadow tree (s), a closed root (c), a slot in one (l); then the Target behind @, the Related behind +.
func written(l []api.Step) string {
	var words []string
	for _, s := range l {
		word := strconv.Itoa(s.Item) + letter(s.InShadow, "s") + letter(s.Closed, "c") + letter(s.Slot, "l")
		if s.Target != 0 {
			word += "@" + strconv.Itoa(s.Target)
		}
		if s.Related != 0 {
			word += "+" + strconv.Itoa(s.Related)
		}
		words = append(words, word)
	}
	return strings.Join(words, " ")
}

func letter(is bool, sign string) string {
	if is {
		return sign
	}
	return ""
}

// event is of a target and a related one, and whether it is composed.
type event struct {
	target, related int
	composed        bool
}

// wantPaths holds the paths of events against what they must be, as they are written.
func wantPaths(t *testing.T, text string, hand []api.Assign, want map[event]string) {
	t.Helper()
	f := tree(t, text)
	for e, steps := range want {
		l, why := path.Path(f, hand, e.target, e.related, e.composed)
		if got := written(l); why != api.OK || got != steps {
			t.Errorf("%s: Path%v: %s, error %d; want %s", text, e, got, why, steps)
		}
	}
}

// Chapter 20, its example.
func TestExample(t *testing.T) {
	wantPaths(t, "h(#){/}", nil, map[event]string{
		{3, 0, true}:  "3@3 5s 4s 2 1",
		{5, 0, false}: "5s@5 4s",
		{5, 0, true}:  "5s@5 4s 2@2 1",
	})
}

// P20.1: targets in documents, in fragments, and such that hang nowhere: up to the root, composed or not.
func TestWithoutShadow(t *testing.T) {
	for _, composed := range []bool{false, true} {
		wantPaths(t, "! - a(b(# /(c)) ?) ~(d(e))", nil, map[event]string{
			{1, 0, composed}:  "1@1",
			{2, 0, composed}:  "2@2 1",
			{3, 0, composed}:  "3@3 1",
			{6, 0, composed}:  "6@6 5 4 1",
			{8, 0, composed}:  "8@8 7 5 4 1",
			{9, 0, composed}:  "9@9 4 1",
			{10, 0, composed}: "10@10",
			{12, 0, composed}: "12@12 11 10",
		})
	}
	f := tree(t, "a")
	f.Nodes = append(f.Nodes, api.Node{Kind: api.KindText, Doc: 1})
	if l, why := path.Path(f, nil, 3, 2, false); why != api.OK || written(l) != "3@3+2" {
		t.Error(l, why)
	}
}

// P20.1: out of shadow trees: an event that is not composed ends at the root of its target's tree, and at no other one.
func TestShadowTrees(t *testing.T) {
	wantPaths(t, "o{h(p){/}}", nil, map[event]string{
		{7, 0, false}: "7s@7 6s",
		{7, 0, true}:  "7s@7 6s 4s@4 3s 2@2 1",
		{6, 0, false}: "6s@6",
		{6, 0, true}:  "6s@6 4s@4 3s 2@2 1",
		{5, 0, false}: "5s@5 7s 6s 4s 3s",
		{5, 0, true}:  "5s@5 7s 6s 4s 3s 2@2 1",
		{4, 0, false}: "4s@4 3s",
		{3, 0, false}: "3s@3",
		{3, 0, true}:  "3s@3 2@2 1",
		{2, 0, false}: "2@2 1",
		{1, 0, true}:  "1@1",
	})
	wantPaths(t, "h(p -){d} ~(g(b){/(c)})", nil, map[event]string{
		{3, 0, true}:   "3@3 2 1",
		{4, 0, true}:   "4@4 2 1",
		{9, 0, false}:  "9@9 11s 10s 8 7",
		{12, 0, true}:  "12s@12 11s 10s 8@8 7",
		{12, 0, false}: "12s@12 11s 10s",
	})
}

// P20.1: closed roots, and slots in them: a slot is told of only where what is ahead of it was assigned to it.
func TestClosed(t *testing.T) {
	wantPaths(t, "h(p)[/(b)]", nil, map[event]string{
		{3, 0, false}: "3@3 5sl 4sc 2 1",
		{5, 0, true}:  "5s@5 4sc 2@2 1",
		{6, 0, true}:  "6s@6 5s 4sc 2@2 1",
		{4, 0, false}: "4sc@4",
	})
	wantPaths(t, "h(p)[g(/){/}]", nil, map[event]string{{3, 0, false}: "3@3 6sl 8s 7s 5s 4sc 2 1"})
	wantPaths(t, "h(p){g(/)[/]}", nil, map[event]string{{3, 0, false}: "3@3 6s 8sl 7sc 5s 4s 2 1", {6, 0, false}: "6s@6 8sl 7sc 5s 4s"})
	wantPaths(t, "h(p)[g(/)[/]]", nil, map[event]string{{3, 0, true}: "3@3 6sl 8sl 7sc 5s 4sc 2 1", {8, 0, true}: "8s@8 7sc 5s@5 4sc 2@2 1"})
}

// P20.1: nodes that slots were given by hand go by these, in a Manual shadow root; a slot that has a shadow root itself.
func TestByHand(t *testing.T) {
	text := "h(p # q:a)[*/.a /]"
	wantPaths(t, text, nil, map[event]string{{3, 0, true}: "3@3 2 1", {5, 0, true}: "5@5 2 1"})
	wantPaths(t, text, []api.Assign{given(8, 5, 4)}, map[event]string{
		{3, 0, true}: "3@3 2 1",
		{4, 0, true}: "4@4 8sl 6sc 2 1",
		{5, 0, true}: "5@5 8sl 6sc 2 1",
	})
	wantPaths(t, "h(p){/(b){/ c}}", nil, map[event]string{
		{3, 0, true}:  "3@3 5s 4s 2 1",
		{6, 0, false}: "6s@6 8s 7s 5s 4s",
		{9, 0, true}:  "9s@9 7s 5s@5 4s 2@2 1",
	})
}

// P20.1: related targets: the target itself, in the same tree, in another one, in a shadow tree; as they are seen from each step.
func TestRelated(t *testing.T) {
	wantPaths(t, "a(b) ~(c)", nil, map[event]string{
		{3, 3, true}:  "3@3+3 2+3 1+3",
		{3, 2, true}:  "3@3+2 2+2 1+2",
		{2, 3, false}: "2@2+3 1+3",
		{3, 5, true}:  "3@3+5 2+5 1+5",
		{1, 1, true}:  "1@1+1",
	})
	wantPaths(t, "a(h{b c} g[d])", nil, map[event]string{
		{5, 2, true}: "5s@5+2 4s+2 3@3+2 2+2 1+2",
		{5, 7, true}: "5s@5+7 4s+7 3@3+7 2+7 1+7",
		{5, 9, true}: "5s@5+7 4s+7 3@3+7 2+7 1+7",
		{2, 9, true}: "2@2+7 1+7",
		{9, 6, true}: "9s@9+3 8sc+3 7@7+3 2+3 1+3",
	})
	wantPaths(t, "h(p){/ b}", nil, map[event]string{
		{3, 6, true}: "3@3+2 5s+6 4s+6 2+2 1+2",
		{3, 3, true}: "3@3+3 5s+3 4s+3 2+3 1+3",
		{6, 3, true}: "6s@6+3 4s+3 2@2+3 1+3",
	})
}

// P20.1: a path is empty, if the target is what the related target is seen as, and not that itself; it ends ahead of a node that is.
func TestEndsAtRelated(t *testing.T) {
	wantPaths(t, "a(o{h{b c}})", nil, map[event]string{
		{3, 7, true}:  "",
		{3, 4, false}: "",
		{3, 5, true}:  "",
		{5, 8, true}:  "",
		{5, 6, false}: "",
		{7, 8, true}:  "7s@7+8 6s+8",
		{7, 7, true}:  "7s@7+7 6s+7",
		{7, 6, true}:  "7s@7+6 6s+6",
		{7, 5, true}:  "7s@7+5 6s+5",
		{7, 4, true}:  "7s@7+4 6s+4 5s@5+4 4s+4",
		{7, 3, true}:  "7s@7+3 6s+3 5s@5+3 4s+3",
		{7, 2, true}:  "7s@7+2 6s+2 5s@5+2 4s+2 3@3+2 2+2 1+2",
		{5, 4, true}:  "5s@5+4 4s+4",
		{5, 5, true}:  "5s@5+5 4s+5",
		{7, 8, false}: "7s@7+8 6s+8",
	})
}

// steps are those that a text writes out: a number is the Item, with c behind it a Closed one, with l a Slot.
func steps(text string) []api.Step {
	var l []api.Step
	for _, word := range strings.Fields(text) {
		item, _ := strconv.Atoi(strings.TrimRight(word, "cl"))
		l = append(l, api.Step{Item: item, Closed: strings.Contains(word, "c"), Slot: strings.Contains(word, "l")})
	}
	return l
}

// P20.3: what each step of a path may see, from the first one to the last one; of hand-made ones, too.
func TestComposed(t *testing.T) {
	for text, want := range map[string]string{
		"1":                 "1",
		"1c":                "1",
		"1cl":               "1",
		"3 2 1":             "3 2 1, 3 2 1, 3 2 1",
		"3 5l 4c 2 1":       "3 2 1, 3 5 4 2 1, 3 5 4 2 1, 3 2 1, 3 2 1",
		"5 4c 2 1":          "5 4 2 1, 5 4 2 1, 2 1, 2 1",
		"8 7c 5 4c 2 1":     "8 7 5 4 2 1, 8 7 5 4 2 1, 5 4 2 1, 5 4 2 1, 2 1, 2 1",
		"3 6l 8l 7c 5 4c 2": "3 2, 3 6 5 4 2, 3 6 8 7 5 4 2, 3 6 8 7 5 4 2, 3 6 5 4 2, 3 6 5 4 2, 3 2",
		"3 6l 8 7 5 4c 2":   "3 2, 3 6 8 7 5 4 2, 3 6 8 7 5 4 2, 3 6 8 7 5 4 2, 3 6 8 7 5 4 2, 3 6 8 7 5 4 2, 3 2",
		"1c 2":              "1 2, 2",
		"1 2l 3":            "1, 1 2 3, 1 2 3",
		"1 2cl 3":           "1 3, 1 2 3, 1 3",
		"1l 2l":             "1, 1 2",
		"1c 2c":             "1 2, 2",
		"0 0c 0":            "0 0 0, 0 0 0, 0",
		"1l 2 3c":           "1 2 3, 1 2 3, 1 2 3",
		"1 2c 3l 4":         "1 2, 1 2, 3 4, 3 4",
	} {
		l := steps(text)
		for at, wanted := range strings.Split(want, ", ") {
			got, why := path.Composed(l, at)
			var words []string
			for _, item := range got {
				words = append(words, strconv.Itoa(item))
			}
			if strings.Join(words, " ") != wanted || why != api.OK {
				t.Errorf("%s: Composed(%d): %v, error %d; want %s", text, at, got, why, wanted)
			}
		}
		if len(strings.Split(want, ", ")) != len(l) {
			t.Errorf("%s: not each step is asked for", text)
		}
	}
}

// P20.2: the last step with a Target tells, by that and by its Related: not others, nor Items.
func TestClears(t *testing.T) {
	f := tree(t, "a(h{b} c)") // 4 is a shadow root, with 5
	for i, x := range []struct {
		l    []api.Step
		want bool
	}{
		{nil, false},
		{[]api.Step{{Item: 5, Related: 5, InShadow: true}, {Item: 4, Closed: true, Slot: true}}, false},
		{[]api.Step{{Target: 5}}, true},
		{[]api.Step{{Target: 4}}, true},
		{[]api.Step{{Target: 3}}, false},
		{[]api.Step{{Item: 5, Target: 1, Related: 6}}, false},
		{[]api.Step{{Target: 3, Related: 5}}, true},
		{[]api.Step{{Target: 3, Related: 4}}, true},
		{[]api.Step{{Target: 5, Related: 6}}, true},
		{[]api.Step{{Target: 5}, {Item: 4}}, true},
		{[]api.Step{{Target: 5}, {Target: 3}, {Item: 1}}, false},
		{[]api.Step{{Target: 5, Related: 5}, {Target: 3, Related: 6}, {Related: 5}}, false},
		{[]api.Step{{Target: 3}, {Target: 5}}, true},
		{[]api.Step{{Target: 3, Related: 6}, {Target: 2, Related: 5}, {Related: 6}}, true},
		{[]api.Step{{Item: 99, Target: 3}, {Item: -1}}, false},
	} {
		if got, why := path.Clears(f, x.l); why != api.OK || got != x.want {
			t.Errorf("%d: %v, error %d", i, got, why)
		}
	}
}

// P20.2: of paths: an event that ends in a shadow tree forgets its targets; one that comes out of it does not.
func TestClearsPaths(t *testing.T) {
	f := tree(t, "a(h{b c} d)")
	for e, want := range map[event]bool{
		{5, 0, false}: true, {5, 0, true}: false, {5, 6, true}: true, {7, 0, true}: false, {7, 5, true}: false, {3, 5, true}: false, {4, 0, false}: true,
	} {
		l, why := path.Path(f, nil, e.target, e.related, e.composed)
		if why != api.OK {
			t.Fatal(why)
		}
		if got, why := path.Clears(f, l); why != api.OK || got != want {
			t.Errorf("%v: %v, error %d", e, got, why)
		}
	}
}

// items are those of steps.
func items(l []api.Step) []int {
	var h []int
	for _, s := range l {
		h = append(h, s.Item)
	}
	return h
}

// P20.3: what composedPath answers on paths: those outside are told nothing of a closed tree, those in it all.
func TestComposedOfPaths(t *testing.T) {
	f := tree(t, "h(p)[g(/){/ k}]")
	l, why := path.Path(f, nil, 9, 0, true)
	if why != api.OK || !slices.Equal(items(l), []int{9, 7, 5, 4, 2, 1}) {
		t.Fatal(l, why)
	}
	for at, want := range [][]int{{9, 7, 5, 4, 2, 1}, {9, 7, 5, 4, 2, 1}, {9, 7, 5, 4, 2, 1}, {9, 7, 5, 4, 2, 1}, {2, 1}, {2, 1}} {
		if got, why := path.Composed(l, at); why != api.OK || !slices.Equal(got, want) {
			t.Errorf("at %d: %v, error %d", at, got, why)
		}
	}
}
