package path_test

import (
	"math"
	"slices"
	"strings"
	"testing"
	"time"

	"canopy/api"
	"canopy/forest"
	"canopy/path"
	"canopy/sample"
)

const example = "h(p:a b){/.a /(i)}"

func noNodes() []int { return []int{-1, 9, math.MaxInt, math.MinInt} }

func wantNoPath(t *testing.T, what string, f api.Forest, hand []api.Assign, target, related int, no api.Errno) {
	t.Helper()
	for _, composed := range []bool{false, true} {
		if l, why := path.Path(f, hand, target, related, composed); why != no || l != nil {
			t.Errorf("%s: Path(%d, %d): %v, error %d; want %d", what, target, related, l, why, no)
		}
	}
}

func wantNoClears(t *testing.T, what string, f api.Forest, l []api.Step, no api.Errno) {
	t.Helper()
	if is, why := path.Clears(f, l); why != no || is {
		t.Errorf("%s: Clears: %v, error %d; want %d", what, is, why, no)
	}
}

// P20.1: a forest that is not right goes ahead of all, then what is by hand, then no node.
func TestPathErrors(t *testing.T) {
	for _, torn := range sample.Torn() {
		for _, hand := range [][]api.Assign{nil, {given(99)}, make([]api.Assign, api.MaxList+1)} {
			for _, h := range []int{0, 2, 99} {
				wantNoPath(t, "torn", torn, hand, h, h, api.ErrForest)
			}
		}
	}
	f := tree(t, example)
	long := slices.Repeat([]int{3}, api.MaxList+1)
	for no, hands := range map[api.Errno][][]api.Assign{
		api.ErrMany:  {make([]api.Assign, api.MaxList+1), {given(6, long...)}, {given(99), given(2, long...)}},
		api.ErrRange: {{given(0)}, {given(9)}, {given(6, 3, 0)}, {given(2), given(6, 9)}},
		api.ErrType:  {{given(2)}, {given(6, 1)}, {given(6), given(6)}, {given(6, 3), given(7, 3)}},
	} {
		for _, hand := range hands {
			for _, h := range []int{0, 2, 6, 99} {
				wantNoPath(t, "by hand", f, hand, h, h, no)
			}
		}
	}
	for _, h := range noNodes() {
		wantNoPath(t, "no target", f, nil, h, 0, api.ErrRange)
		wantNoPath(t, "no related target", f, nil, 2, h, api.ErrRange)
		wantNoPath(t, "neither", f, nil, h, h, api.ErrRange)
		wantNoPath(t, "no nodes", api.Forest{}, nil, h, 0, api.ErrRange)
	}
	wantNoPath(t, "no target", f, nil, 0, 0, api.ErrRange)
	wantNoPath(t, "no target", f, nil, 0, 2, api.ErrRange)
	wantNoPath(t, "no nodes", api.Forest{}, nil, 0, 0, api.ErrRange)
}

// P20.2: a forest that is not right, then too many steps, then no node, in whichever step; Items are not asked for.
func TestClearsErrors(t *testing.T) {
	many := make([]api.Step, api.MaxList+1)
	many[0].Target = 99
	for _, torn := range sample.Torn() {
		for _, l := range [][]api.Step{nil, {{Target: 99}}, many} {
			wantNoClears(t, "torn", torn, l, api.ErrForest)
		}
	}
	f := tree(t, example)
	wantNoClears(t, "too many", f, many, api.ErrMany)
	wantNoClears(t, "too many of no nodes", api.Forest{}, many, api.ErrMany)
	for _, h := range noNodes() {
		for i := range 3 {
			for _, wrong := range []api.Step{{Target: h}, {Related: h}, {Target: 6, Related: h}, {Target: h, Related: 6}} {
				l := make([]api.Step, 3)
				l[1].Target, l[i] = 6, wrong
				wantNoClears(t, "no node", f, l, api.ErrRange)
			}
		}
	}
	most := make([]api.Step, api.MaxList)
	most[0].Target, most[7].Item = 6, -1
	if is, why := path.Clears(f, most); why != api.OK || !is {
		t.Error("as many as may be:", is, why)
	}
	wantNoClears(t, "no nodes", api.Forest{}, nil, api.OK)
	wantNoClears(t, "no nodes", api.Forest{}, []api.Step{{Target: 1}}, api.ErrRange)
}

// P20.3: too many steps, then a step that there is not.
func TestComposedErrors(t *testing.T) {
	for _, x := range []struct {
		steps, at int
		no        api.Errno
	}{
		{0, 0, api.ErrRange}, {0, -1, api.ErrRange}, {1, 1, api.ErrRange}, {3, 3, api.ErrRange}, {3, -1, api.ErrRange},
		{3, math.MaxInt, api.ErrRange}, {3, math.MinInt, api.ErrRange}, {api.MaxList, api.MaxList, api.ErrRange},
		{api.MaxList + 1, 0, api.ErrMany}, {api.MaxList + 1, -1, api.ErrMany}, {api.MaxList + 1, api.MaxList + 1, api.ErrMany},
	} {
		if l, why := path.Composed(make([]api.Step, x.steps), x.at); why != x.no || l != nil {
			t.Errorf("of %d at %d: %v, error %d; want %d", x.steps, x.at, l, why, x.no)
		}
	}
	for _, at := range []int{0, 1, api.MaxList - 1} {
		if l, why := path.Composed(make([]api.Step, api.MaxList), at); why != api.OK || len(l) != api.MaxList {
			t.Errorf("as many as may be, at %d: %d, error %d", at, len(l), why)
		}
	}
}

// P20.4: answers are new memory, and what is handed in stays as it is.
func TestNewMemory(t *testing.T) {
	text, hand := "h(p b)[*/ /(i)]", []api.Assign{given(7, 4, 3)}
	in, list := sample.Roomy(sample.Tree(text)), []api.Assign{{Slot: 7, Nodes: slices.Grow([]int{4, 3}, 4)}}
	l, why := path.Path(in, list, 3, 4, true)
	was := slices.Clone(l)
	if why != api.OK || written(l) != "3@3+4 7sl+4 5sc+4 2+4 1+4" {
		t.Fatal(written(l), why)
	}
	sample.Fill(l, api.Step{Item: 999})
	if !forest.Same(in, sample.Tree(text)) || sample.Spoilt(in) || !slices.Equal(list[0].Nodes[:4], []int{4, 3, 0, 0}) || list[0].Slot != hand[0].Slot {
		t.Error("what is handed in changes with the path")
	}
	l, _ = path.Path(in, list, 3, 4, true)
	again, _ := path.Path(in, list, 3, 4, true)
	sample.Fill(again, api.Step{Item: 999})
	sample.Spoil(in)
	sample.Fill(list[0].Nodes, 999)
	if !slices.Equal(l, was) {
		t.Error("the path changes with what was handed in, or with another one")
	}

	steps := slices.Grow(slices.Clone(was), 4)
	f := sample.Roomy(sample.Tree(text))
	for at := range steps {
		got, _ := path.Composed(steps, at)
		kept := slices.Clone(got)
		sample.Fill(got, 999)
		got, _ = path.Composed(steps, at)
		if !slices.Equal(got, kept) || !slices.Equal(steps, was) || steps[:len(was)+1][len(was)] != (api.Step{}) {
			t.Errorf("at %d: the steps change with the answer", at)
		}
	}
	if _, why := path.Clears(f, steps); why != api.OK || !slices.Equal(steps, was) || !forest.Same(f, sample.Tree(text)) || sample.Spoilt(f) {
		t.Error("Clears changes something:", why)
	}
}

// P1, P2: whatever is given, each call answers.
func TestAnything(t *testing.T) {
	f, d := tree(t, "h(p:a b /)[/.a /(i){/} c(d)]"), sample.NewDice(20)
	any := func() int { return d.Below(len(f.Nodes)+4) - 2 }
	for range 3000 {
		var hand []api.Assign
		for range d.Below(3) {
			a := api.Assign{Slot: any()}
			for range d.Below(3) {
				a.Nodes = append(a.Nodes, any())
			}
			hand = append(hand, a)
		}
		if l, why := path.Path(f, hand, any(), any(), d.Below(2) == 0); why != api.OK && l != nil {
			t.Error("beside an error:", l, why)
		}
		var steps []api.Step
		for range d.Below(5) {
			steps = append(steps, api.Step{Item: any(), Target: any(), Related: any(), Closed: d.Below(2) == 0, Slot: d.Below(2) == 0})
		}
		if is, why := path.Clears(f, steps); why != api.OK && is {
			t.Error("beside an error:", is, why)
		}
		if l, why := path.Composed(steps, any()); why != api.OK && l != nil {
			t.Error("beside an error:", l, why)
		}
	}
	if !forest.Same(f, sample.Tree("h(p:a b /)[/.a /(i){/} c(d)]")) {
		t.Error("the forest is changed")
	}
}

// P1: the longest paths of the greatest forests are gone soon, with a related target that is seen through many hosts.
func TestGreat(t *testing.T) {
	started := time.Now()
	for what, x := range map[string]struct {
		first, more, last string
		target            int                  // 0: the last node
		steps             func(n, all int) int // how many there are, where more is there n times
	}{
		"deep":        {"a(", "b(", "#", 0, func(_, all int) int { return all }},
		"out of all":  {"h{", "g[", "/", 0, func(_, all int) int { return all }},
		"through all": {"h(p){", "g(/)[", "/", 3, func(_, all int) int { return all }},
		"many hosts":  {"h(p){", "g(p){/} ", "/", 3, func(int, int) int { return 5 }},
	} {
		n := (api.MaxNodes - len(sample.Tree(x.first+x.last).Nodes)) / (len(sample.Tree(x.more).Nodes) - 1)
		f := tree(t, x.first+strings.Repeat(x.more, n)+x.last)
		target := x.target
		if target == 0 {
			target = len(f.Nodes)
		}
		l, why := path.Path(f, nil, target, 0, true)
		if why != api.OK || len(l) != x.steps(n, len(f.Nodes)) || len(f.Nodes) < api.MaxNodes-4 {
			t.Errorf("%s: %d steps of %d, error %d", what, len(l), len(f.Nodes), why)
		}
		for _, related := range []int{2, 5, len(f.Nodes) / 2, len(f.Nodes)} {
			if _, why := path.Path(f, nil, target, related, true); why != api.OK {
				t.Errorf("%s: error %d", what, why)
			}
		}
		for _, at := range []int{0, len(l) / 2, len(l) - 1} {
			if seen, why := path.Composed(l, at); why != api.OK || len(seen) == 0 {
				t.Errorf("%s: at %d: %d, error %d", what, at, len(seen), why)
			}
		}
		if _, why := path.Clears(f, l); why != api.OK {
			t.Errorf("%s: error %d", what, why)
		}
	}
	if took := time.Since(started); took > time.Minute {
		t.Error("it takes too long:", took)
	}
}
