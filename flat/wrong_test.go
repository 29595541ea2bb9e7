package flat_test

import (
	"math"
	"slices"
	"strings"
	"testing"
	"time"

	"canopy/api"
	"canopy/flat"
	"canopy/forest"
	"canopy/sample"
)

// calls are those of the flat tree, each as whether it answers nothing, and its error.
func calls() map[string]func(f api.Forest, hand []api.Assign, h int) (bool, api.Errno) {
	type answer = func(f api.Forest, hand []api.Assign, h int) (bool, api.Errno)
	list := func(call func(api.Forest, []api.Assign, int) ([]int, api.Errno)) answer {
		return func(f api.Forest, hand []api.Assign, h int) (bool, api.Errno) {
			l, why := call(f, hand, h)
			return len(l) == 0, why
		}
	}
	nodes := func(flatten bool) func(api.Forest, []api.Assign, int) ([]int, api.Errno) {
		return func(f api.Forest, hand []api.Assign, h int) ([]int, api.Errno) {
			return flat.Nodes(f, hand, h, flatten)
		}
	}
	return map[string]answer{
		"Flatten": list(flat.Flatten), "Nodes": list(nodes(false)), "Nodes, flatten": list(nodes(true)), "Kids": list(flat.Kids), "All": list(flat.All),
		"Parent": func(f api.Forest, hand []api.Assign, h int) (bool, api.Errno) {
			parent, why := flat.Parent(f, hand, h)
			return parent == 0, why
		},
	}
}

func ofSlots(call string) bool {
	return slices.Contains([]string{"Flatten", "Nodes", "Nodes, flatten"}, call)
}

func noNodes() []int { return []int{0, -1, 9, math.MaxInt, math.MinInt} }

// wrongHands are lists by hand that are not right in the chapter's example, by their errors, and such in which two errors hold at once, by the one that goes first.
func wrongHands() map[api.Errno][][]api.Assign {
	long := slices.Repeat(some(3), api.MaxList+1)
	return map[api.Errno][][]api.Assign{
		api.ErrMany:  {make([]api.Assign, api.MaxList+1), {given(6, long...)}, {given(99), given(2, long...)}},
		api.ErrRange: {{given(0)}, {given(9)}, {given(6, 3, 0)}, {given(6, -1)}, {given(2), given(6, 9)}},
		api.ErrType:  {{given(2)}, {given(6, 1)}, {given(6, 5)}, {given(6), given(6)}, {given(6, 3, 3)}, {given(6, 3), given(7, 3)}},
	}
}

// 19.1: a forest that is not right goes ahead of all, then what is by hand, then no node, then no slot.
func TestErrors(t *testing.T) {
	f := tree(t, example)
	want := func(what, name string, nothing bool, why, no api.Errno) {
		t.Helper()
		if why != no || !nothing {
			t.Errorf("%s: %s: error %d; want %d", what, name, why, no)
		}
	}
	for name, call := range calls() {
		for _, torn := range sample.Torn() {
			for _, hand := range [][]api.Assign{nil, {given(99)}, make([]api.Assign, api.MaxList+1)} {
				for _, h := range []int{0, 2, 99} {
					nothing, why := call(torn, hand, h)
					want("torn", name, nothing, why, api.ErrForest)
				}
			}
		}
		for no, hands := range wrongHands() {
			for _, hand := range hands {
				for _, h := range []int{0, 2, 6, 99} {
					nothing, why := call(f, hand, h)
					want("by hand", name, nothing, why, no)
				}
			}
		}
		for _, h := range noNodes() {
			nothing, why := call(f, nil, h)
			want("no node", name, nothing, why, api.ErrRange)
			nothing, why = call(api.Forest{}, nil, h)
			want("no nodes", name, nothing, why, api.ErrRange)
		}
		for _, h := range []int{1, 2, 3, 4, 5, 8} {
			if nothing, why := call(f, nil, h); ofSlots(name) {
				want("no slot", name, nothing, why, api.ErrType)
			} else if why != api.OK {
				t.Errorf("%s(%d): error %d", name, h, why)
			}
		}
	}
}

// 19.1: elements that are called slot and are none.
func TestNoSlots(t *testing.T) {
	f := tree(t, "h(p){a b}")
	f.Nodes[4].Name = api.Name{Space: api.SpaceSVG, Local: "slot"}
	f.Nodes[5].Name = api.Name{Space: api.SpaceHTML, Local: "SLOT"}
	for _, h := range []int{5, 6} {
		if l, why := flat.Flatten(f, nil, h); why != api.ErrType || l != nil {
			t.Errorf("Flatten(%d): %v, error %d", h, l, why)
		}
	}
	wantAll(t, f, nil, 2, 2, 5, 6)
}

// 19.3: a forest that is not right, then a node that is none, on both sides.
func TestRetargetErrors(t *testing.T) {
	want := func(f api.Forest, a, b int, no api.Errno) {
		t.Helper()
		if h, why := flat.Retarget(f, a, b); why != no || h != 0 {
			t.Errorf("Retarget(%d, %d): %d, error %d; want %d", a, b, h, why, no)
		}
		if is, why := flat.Seen(f, a, b); why != no || is {
			t.Errorf("Seen(%d, %d): %v, error %d; want %d", a, b, is, why, no)
		}
	}
	for _, torn := range sample.Torn() {
		for _, h := range []int{0, 1, 99} {
			want(torn, h, 1, api.ErrForest)
			want(torn, 1, h, api.ErrForest)
		}
	}
	f := tree(t, example)
	for _, h := range noNodes() {
		want(f, h, 6, api.ErrRange)
		want(f, 6, h, api.ErrRange)
		want(f, h, h, api.ErrRange)
		want(api.Forest{}, h, h, api.ErrRange)
	}
}

// 19.4: what is answered is new memory, and what is handed in stays as it is.
func TestNewMemory(t *testing.T) {
	text, manual := "h(p:a b){/.a /(i) c(d)}", "h(p b){*/ /(i) c(d)}"
	hand := []api.Assign{given(6, 4, 3)}
	for name, call := range map[string]func(f api.Forest, hand []api.Assign, h int) ([]int, api.Errno){
		"Flatten": flat.Flatten, "Kids": flat.Kids, "All": flat.All,
		"Nodes": func(f api.Forest, hand []api.Assign, h int) ([]int, api.Errno) { return flat.Nodes(f, hand, h, false) },
	} {
		for _, text := range []string{text, manual} {
			for _, h := range []int{1, 2, 5, 6, 7, 9} {
				in, given := sample.Roomy(sample.Tree(text)), []api.Assign{{Slot: 6, Nodes: slices.Grow(some(4, 3), 4)}}
				got, why := call(in, given, h)
				was := slices.Clone(got)
				sample.Fill(got, 999)
				if !forest.Same(in, sample.Tree(text)) || sample.Spoilt(in) || !slices.Equal(given[0].Nodes[:4], some(4, 3, 0, 0)) {
					t.Errorf("%s(%d): what is handed in changes with the answer", name, h)
				}
				got, again := call(in, given, h)
				sample.Spoil(in)
				sample.Fill(given[0].Nodes, 999)
				if why != again || !slices.Equal(got, was) {
					t.Errorf("%s(%d): the answer changes with what was handed in", name, h)
				}
			}
		}
	}
	wantList(t, "Kids", some(4, 3))(flat.Kids(tree(t, manual), hand, 6))
}

// P1, P2: whatever is given, each call answers.
func TestAnything(t *testing.T) {
	f, d := tree(t, "h(p:a b /){/.a /(i){/} c(d)}"), sample.NewDice(19)
	any := func() int { return d.Below(len(f.Nodes)+4) - 2 }
	for range 2000 {
		var hand []api.Assign
		for range d.Below(3) {
			a := api.Assign{Slot: any()}
			for range d.Below(3) {
				a.Nodes = append(a.Nodes, any())
			}
			hand = append(hand, a)
		}
		for name, call := range calls() {
			if nothing, why := call(f, hand, any()); why != api.OK && !nothing {
				t.Errorf("%s: beside an error %d there is something", name, why)
			}
		}
		flat.Retarget(f, any(), any())
	}
}

// P1: the greatest forests are seen to soon: slots within slots, hosts within hosts, a node handed on through all of them, many slots, many hosts.
func TestGreat(t *testing.T) {
	started := time.Now()
	for what, x := range map[string]struct {
		first, more, last string
		all               func(n int) int // how many are in the flat tree, where more is there n times
		comesTo           []int           // what the last slot comes to
	}{
		"slots in slots":   {"h{", "/(", "#", func(n int) int { return n + 3 }, nil},
		"hosts in hosts":   {"h{", "g{", "/(#)", func(n int) int { return n + 4 }, nil},
		"through all":      {"h(p){", "g(/){", "/", func(n int) int { return 2*n + 4 }, some(3)},
		"many slots":       {"h(p:a){", "/ ", "/.a", func(n int) int { return n + 4 }, some(3)},
		"many hosts":       {"h(p){", "g(p){/} ", "/", func(n int) int { return 3*n + 4 }, some(3)},
		"many in one slot": {"h(p){/}(", "p ", ")", func(n int) int { return n + 4 }, nil},
	} {
		n := (api.MaxNodes - len(sample.Tree(x.first+x.last).Nodes)) / (len(sample.Tree(x.more).Nodes) - 1)
		f := tree(t, x.first+strings.Repeat(x.more, n)+x.last)
		if all, why := flat.All(f, nil, 1); why != api.OK || len(all) != x.all(n) || len(f.Nodes) < api.MaxNodes-4 {
			t.Errorf("%s: %d of %d, error %d", what, len(all), len(f.Nodes), why)
		}
		if x.comesTo != nil {
			wantList(t, what, x.comesTo)(flat.Flatten(f, nil, len(f.Nodes)))
		}
		for _, h := range []int{1, 2, 4, 5, len(f.Nodes)} {
			for name, call := range calls() {
				if _, why := call(f, nil, h); why != api.OK && why != api.ErrType {
					t.Errorf("%s: %s(%d): error %d", what, name, h, why)
				}
			}
		}
		if h, why := flat.Retarget(f, len(f.Nodes), 1); why != api.OK || h != 2 && what != "many in one slot" {
			t.Errorf("%s: %d, error %d", what, h, why)
		}
	}
	if took := time.Since(started); took > time.Minute {
		t.Error("it takes too long:", took)
	}
}
