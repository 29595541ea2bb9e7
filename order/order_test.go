package order_test

import (
	"math"
	"slices"
	"testing"

	"canopy/api"
	"canopy/forest"
	"canopy/order"
	"canopy/sample"
)

func local(s string) api.Name { return api.Name{Local: s} }

// tall is the chapter's example: a document with an element that has a text and an element, which has a shadow root with an element.
func tall() api.Forest {
	return api.Forest{Nodes: []api.Node{
		{Kind: api.KindDocument, Kids: []int{2}, Doc: 1},
		{Kind: api.KindElement, Name: local("a"), Parent: 1, Kids: []int{3, 4}, Doc: 1},
		{Kind: api.KindText, Parent: 2, Doc: 1, Data: api.Units{1, 2, 3}},
		{Kind: api.KindElement, Name: local("b"), Parent: 2, Doc: 1, Shadow: 5},
		{Kind: api.KindShadow, Kids: []int{6}, Doc: 1, Host: 4, Mode: api.ShadowOpen},
		{Kind: api.KindElement, Name: local("c"), Parent: 5, Doc: 1},
	}}
}

// want holds an answer against what it must be.
func want[T any](t *testing.T, what string, same func(a, b T) bool, wanted T) func(T, api.Errno) {
	t.Helper()
	return func(got T, why api.Errno) {
		t.Helper()
		if why != api.OK || !same(got, wanted) {
			t.Errorf("%s = %v, error %d; want %v", what, got, why, wanted)
		}
	}
}

func number(t *testing.T, what string, wanted int) func(int, api.Errno) {
	t.Helper()
	return want(t, what, func(a, b int) bool { return a == b }, wanted)
}

func truth(t *testing.T, what string, wanted bool) func(bool, api.Errno) {
	t.Helper()
	return want(t, what, func(a, b bool) bool { return a == b }, wanted)
}

func list(t *testing.T, what string, wanted ...int) func([]int, api.Errno) {
	t.Helper()
	return want(t, what, slices.Equal[[]int], wanted)
}

// Chapter 4, its example.
func TestExample(t *testing.T) {
	f := tall()
	list(t, "All(1)", 1, 2, 3, 4)(order.All(f, 1))
	number(t, "Compare(3, 2)", 10)(order.Compare(f, 3, 2))
	number(t, "Compare(2, 3)", 20)(order.Compare(f, 2, 3))
	number(t, "Compare(4, 3)", 2)(order.Compare(f, 4, 3))
	number(t, "Compare(3, 4)", 4)(order.Compare(f, 3, 4))
	number(t, "Common(3, 4)", 2)(order.Common(f, 3, 4))
	number(t, "Root(6)", 5)(order.Root(f, 6))
	number(t, "Top(6)", 1)(order.Top(f, 6))
	list(t, "Deep(2)", 2, 3, 4, 5, 6)(order.Deep(f, 2))
	truth(t, "Connected(6)", true)(order.Connected(f, 6))
	number(t, "Compare(6, 2)", 1+32+2)(order.Compare(f, 6, 2))
}

// calls are all calls, the second handle of those that have none left out.
func calls() map[string]func(f api.Forest, a, b int) (any, bool, api.Errno) {
	type answer = func(f api.Forest, a, b int) (any, bool, api.Errno)
	one := func(call func(api.Forest, int) (int, api.Errno)) answer {
		return func(f api.Forest, a, b int) (any, bool, api.Errno) {
			n, why := call(f, a)
			return n, n == 0, why
		}
	}
	many := func(call func(api.Forest, int) ([]int, api.Errno)) answer {
		return func(f api.Forest, a, b int) (any, bool, api.Errno) {
			l, why := call(f, a)
			return l, l == nil, why
		}
	}
	two := func(call func(api.Forest, int, int) (int, api.Errno)) answer {
		return func(f api.Forest, a, b int) (any, bool, api.Errno) {
			n, why := call(f, a, b)
			return n, n == 0, why
		}
	}
	whether := func(call func(api.Forest, int, int) (bool, api.Errno)) answer {
		return func(f api.Forest, a, b int) (any, bool, api.Errno) {
			is, why := call(f, a, b)
			return is, !is, why
		}
	}
	return map[string]answer{
		"Root": one(order.Root), "Index": one(order.Index), "Length": one(order.Length), "Next": one(order.Next),
		"Prev": one(order.Prev), "Top": one(order.Top),
		"Ancestors": many(order.Ancestors), "All": many(order.All), "Deep": many(order.Deep),
		"Common": two(order.Common), "Compare": two(order.Compare),
		"Contains": whether(order.Contains), "Holds": whether(order.Holds),
		"Connected": whether(func(f api.Forest, a, _ int) (bool, api.Errno) { return order.Connected(f, a) }),
		"Cmp": func(f api.Forest, a, b int) (any, bool, api.Errno) {
			n, is, why := order.Cmp(f, a, b)
			return n, n == 0 && !is, why
		},
	}
}

func takesTwo(call string) bool {
	return slices.Contains([]string{"Common", "Compare", "Contains", "Holds", "Cmp"}, call)
}

// P4.1: ErrForest first, then ErrRange, and nothing beside an error; a handle is of a node from 1 to as many as there are.
func TestErrors(t *testing.T) {
	bad := tall()
	bad.Nodes[3].Parent = 0
	many := api.Forest{Nodes: make([]api.Node, api.MaxNodes+1)}
	for name, call := range calls() {
		for _, f := range []api.Forest{bad, many} {
			for _, h := range []int{2, 0, 7} {
				if x, zero, why := call(f, h, h); why != api.ErrForest || !zero {
					t.Errorf("%s of a forest that is not right: %v, error %d", name, x, why)
				}
			}
		}
		for _, h := range []int{0, -1, 7, math.MaxInt, math.MinInt} {
			if x, zero, why := call(tall(), h, 2); why != api.ErrRange || !zero {
				t.Errorf("%s(%d, 2): %v, error %d", name, h, x, why)
			}
			if x, zero, why := call(tall(), 2, h); takesTwo(name) && (why != api.ErrRange || !zero) {
				t.Errorf("%s(2, %d): %v, error %d", name, h, x, why)
			}
			if x, zero, why := call(api.Forest{}, h, h); why != api.ErrRange || !zero {
				t.Errorf("%s of no node: %v, error %d", name, x, why)
			}
		}
		for _, h := range []int{1, 6} {
			if _, _, why := call(tall(), h, h); why != api.OK {
				t.Errorf("%s(%d): error %d", name, h, why)
			}
		}
	}
}

// P4.2: roots, ancestors, places, lengths, node by node.
func TestPlaces(t *testing.T) {
	f := tall()
	f.Nodes = append(f.Nodes,
		api.Node{Kind: api.KindDoctype, Name: local("d"), Public: "p", Doc: 1},
		api.Node{Kind: api.KindFragment, Kids: []int{9, 10, 11}, Doc: 1},
		api.Node{Kind: api.KindComment, Data: api.Units{1}, Parent: 8, Doc: 1},
		api.Node{Kind: api.KindCData, Data: api.Units{1, 2}, Parent: 8, Doc: 1},
		api.Node{Kind: api.KindInstruction, Name: local("i"), Data: api.Units{1, 2, 3, 4}, Parent: 8, Doc: 1},
	)
	for i, c := range []struct {
		root, index, length int
		ancestors           []int
	}{
		{1, 0, 1, nil}, {1, 0, 2, []int{1}}, {1, 0, 3, []int{2, 1}}, {1, 1, 0, []int{2, 1}}, {5, 0, 1, nil}, {5, 0, 0, []int{5}},
		{7, 0, 0, nil}, {8, 0, 3, nil}, {8, 0, 1, []int{8}}, {8, 1, 2, []int{8}}, {8, 2, 4, []int{8}},
	} {
		h := i + 1
		number(t, "Root", c.root)(order.Root(f, h))
		number(t, "Index", c.index)(order.Index(f, h))
		number(t, "Length", c.length)(order.Length(f, h))
		list(t, "Ancestors", c.ancestors...)(order.Ancestors(f, h))
	}
}

// P4.3 to P4.5: two nodes of one tree, of two trees, and within a shadow tree.
func TestPairs(t *testing.T) {
	f := tall()
	f.Nodes = append(f.Nodes, api.Node{Kind: api.KindText, Doc: 1})
	for _, c := range []struct {
		a, b     int
		contains bool
		common   int
		cmp      int
		oneTree  bool
		position int
		holds    bool
	}{
		{2, 2, true, 2, 0, true, 0, true},
		{1, 3, true, 1, -1, true, 20, true},
		{3, 1, false, 1, 1, true, 10, false},
		{3, 4, false, 2, -1, true, 4, false},
		{4, 3, false, 2, 1, true, 2, false},
		{2, 7, false, 0, 0, false, 37, false},
		{7, 2, false, 0, 0, false, 35, false},
		{4, 5, false, 0, 0, false, 37, true},
		{5, 4, false, 0, 0, false, 35, false},
		{5, 6, true, 5, -1, true, 20, true},
		{6, 5, false, 5, 1, true, 10, false},
		{1, 6, false, 0, 0, false, 37, true},
		{6, 1, false, 0, 0, false, 35, false},
		{3, 6, false, 0, 0, false, 37, false},
	} {
		truth(t, "Contains", c.contains)(order.Contains(f, c.a, c.b))
		number(t, "Common", c.common)(order.Common(f, c.a, c.b))
		number(t, "Compare", c.position)(order.Compare(f, c.a, c.b))
		truth(t, "Holds", c.holds)(order.Holds(f, c.a, c.b))
		if n, is, why := order.Cmp(f, c.a, c.b); n != c.cmp || is != c.oneTree || why != api.OK {
			t.Errorf("Cmp(%d, %d) = %d, %t, error %d", c.a, c.b, n, is, why)
		}
	}
}

// P4.4 and P4.6: the orders of trees, node by node.
func TestOrders(t *testing.T) {
	f := tall()
	f.Nodes[3].Kids = []int{7}
	f.Nodes = append(f.Nodes,
		api.Node{Kind: api.KindText, Parent: 4, Doc: 1},
		api.Node{Kind: api.KindElement, Name: local("h"), Doc: 1, Shadow: 9},
		api.Node{Kind: api.KindShadow, Host: 8, Mode: api.ShadowClosed, Doc: 1},
	)
	for i, c := range []struct {
		all, deep  []int
		next, prev int
		top        int
		connected  bool
	}{
		{[]int{1, 2, 3, 4, 7}, []int{1, 2, 3, 4, 5, 6, 7}, 2, 0, 1, true},
		{[]int{2, 3, 4, 7}, []int{2, 3, 4, 5, 6, 7}, 3, 1, 1, true},
		{[]int{3}, []int{3}, 4, 2, 1, true},
		{[]int{4, 7}, []int{4, 5, 6, 7}, 7, 3, 1, true},
		{[]int{5, 6}, []int{5, 6}, 6, 0, 1, true},
		{[]int{6}, []int{6}, 0, 5, 1, true},
		{[]int{7}, []int{7}, 0, 4, 1, true},
		{[]int{8}, []int{8, 9}, 0, 0, 8, false},
		{[]int{9}, []int{9}, 0, 0, 8, false},
	} {
		h := i + 1
		list(t, "All", c.all...)(order.All(f, h))
		list(t, "Deep", c.deep...)(order.Deep(f, h))
		number(t, "Next", c.next)(order.Next(f, h))
		number(t, "Prev", c.prev)(order.Prev(f, h))
		number(t, "Top", c.top)(order.Top(f, h))
		truth(t, "Connected", c.connected)(order.Connected(f, h))
	}
}

// model says of a forest what the chapter's words say, as plainly as can be.
type model struct{ api.Forest }

func (m model) parent(h int) int { return m.Nodes[h-1].Parent }

func (m model) over(h int) int { return m.Nodes[h-1].Parent + m.Nodes[h-1].Host }

func (m model) chain(h int, up func(int) int) []int {
	if h == 0 {
		return nil
	}
	return append([]int{h}, m.chain(up(h), up)...)
}

func (m model) all(h int, shadows bool) []int {
	l := []int{h}
	if root := m.Nodes[h-1].Shadow; shadows && root != 0 {
		l = append(l, m.all(root, true)...)
	}
	for _, kid := range m.Nodes[h-1].Kids {
		l = append(l, m.all(kid, shadows)...)
	}
	return l
}

func (m model) wantNode(t *testing.T, h int) {
	t.Helper()
	n := m.Nodes[h-1]
	above, over := m.chain(h, m.parent), m.chain(h, m.over)
	root, top := above[len(above)-1], over[len(over)-1]
	whole := append(append([]int{0}, m.all(root, false)...), 0)
	at := slices.Index(whole, h)
	index := 0
	if n.Parent != 0 {
		index = slices.Index(m.Nodes[n.Parent-1].Kids, h)
	}
	length := len(n.Kids)
	if slices.Contains([]api.NodeKind{api.KindText, api.KindCData, api.KindComment, api.KindInstruction}, n.Kind) {
		length = len(n.Data)
	}
	number(t, "Root", root)(order.Root(m.Forest, h))
	list(t, "Ancestors", above[1:]...)(order.Ancestors(m.Forest, h))
	number(t, "Index", index)(order.Index(m.Forest, h))
	number(t, "Length", length)(order.Length(m.Forest, h))
	list(t, "All", m.all(h, false)...)(order.All(m.Forest, h))
	list(t, "Deep", m.all(h, true)...)(order.Deep(m.Forest, h))
	number(t, "Next", whole[at+1])(order.Next(m.Forest, h))
	number(t, "Prev", whole[at-1])(order.Prev(m.Forest, h))
	number(t, "Top", top)(order.Top(m.Forest, h))
	truth(t, "Connected", m.Nodes[top-1].Kind == api.KindDocument)(order.Connected(m.Forest, h))
}

func (m model) wantPair(t *testing.T, a, b int) {
	t.Helper()
	chainA, chainB := m.chain(a, m.parent), m.chain(b, m.parent)
	common := 0
	for _, x := range chainA {
		if common == 0 && slices.Contains(chainB, x) {
			common = x
		}
	}
	whole := m.all(chainA[len(chainA)-1], false)
	oneTree := slices.Contains(whole, b)
	sign := 0
	if oneTree && a != b {
		sign = 1
		if slices.Index(whole, a) < slices.Index(whole, b) {
			sign = -1
		}
	}
	position := 4
	switch {
	case a == b:
		position = 0
	case !oneTree && b < a:
		position = 35
	case !oneTree:
		position = 37
	case slices.Contains(chainA, b):
		position = 10
	case slices.Contains(chainB, a):
		position = 20
	case sign > 0:
		position = 2
	}
	truth(t, "Contains", slices.Contains(chainB, a))(order.Contains(m.Forest, a, b))
	number(t, "Common", common)(order.Common(m.Forest, a, b))
	number(t, "Compare", position)(order.Compare(m.Forest, a, b))
	truth(t, "Holds", slices.Contains(m.all(a, true), b))(order.Holds(m.Forest, a, b))
	if n, is, why := order.Cmp(m.Forest, a, b); n != sign || is != oneTree || why != api.OK {
		t.Errorf("Cmp(%d, %d) = %d, %t, error %d; want %d, %t", a, b, n, is, why, sign, oneTree)
	}
}

// P4.2 to P4.6: all calls say what the model says, of all nodes and pairs of forests that are grown.
func TestAsModel(t *testing.T) {
	for seed := range 150 {
		d := sample.NewDice(seed)
		m := model{sample.Grow(d, 1+d.Below(16))}
		for a := range len(m.Nodes) {
			m.wantNode(t, a+1)
			for b := range len(m.Nodes) {
				m.wantPair(t, a+1, b+1)
			}
		}
		if t.Failed() {
			t.Fatalf("seed %d: %+v", seed, m.Forest)
		}
	}
}

// answers of a forest, put into tables by handles, so that what follows from the promises can be held against them.
type answers struct {
	n                     int
	root, top, next       []int
	all, deep             [][]int
	cmp, position, common [][]int
	contains, holds       [][]bool
	oneTree               [][]bool
}

func ask(f api.Forest) answers {
	n := len(f.Nodes)
	s := answers{n: n}
	for a := range n {
		root, _ := order.Root(f, a+1)
		top, _ := order.Top(f, a+1)
		next, _ := order.Next(f, a+1)
		all, _ := order.All(f, a+1)
		deep, _ := order.Deep(f, a+1)
		s.root, s.top, s.next = append(s.root, root), append(s.top, top), append(s.next, next)
		s.all, s.deep = append(s.all, all), append(s.deep, deep)
		cmp, position, common := make([]int, n), make([]int, n), make([]int, n)
		contains, holds, oneTree := make([]bool, n), make([]bool, n), make([]bool, n)
		for b := range n {
			cmp[b], oneTree[b], _ = order.Cmp(f, a+1, b+1)
			position[b], _ = order.Compare(f, a+1, b+1)
			common[b], _ = order.Common(f, a+1, b+1)
			contains[b], _ = order.Contains(f, a+1, b+1)
			holds[b], _ = order.Holds(f, a+1, b+1)
		}
		s.cmp, s.position, s.common = append(s.cmp, cmp), append(s.position, position), append(s.common, common)
		s.contains, s.holds, s.oneTree = append(s.contains, contains), append(s.holds, holds), append(s.oneTree, oneTree)
	}
	return s
}

// P4.8 to P4.11: what follows from the promises, of forests that are grown.
func TestWhatFollows(t *testing.T) {
	for seed := range 60 {
		d := sample.NewDice(seed + 1000)
		f := sample.Grow(d, 2+d.Below(12))
		s := ask(f)
		for a := range s.n {
			s.wantOne(t, a)
			for b := range s.n {
				s.wantTwo(t, f, a, b)
				for c := range s.n {
					if s.oneTree[a][b] && s.cmp[a][b] <= 0 && s.cmp[b][c] <= 0 && s.oneTree[b][c] && s.cmp[a][c] > 0 {
						t.Error("P4.8: no order:", a+1, b+1, c+1)
					}
					if s.holds[a][b] && s.holds[b][c] && !s.holds[a][c] {
						t.Error("P4.11: Holds does not go on:", a+1, b+1, c+1)
					}
				}
			}
		}
		if t.Failed() {
			t.Fatalf("seed %d: %+v", seed, f)
		}
	}
}

func (s answers) wantOne(t *testing.T, a int) {
	t.Helper()
	for i, h := range s.all[a] {
		if i > 0 && s.cmp[s.all[a][i-1]-1][h-1] != -1 {
			t.Error("P4.8: All is not by Cmp:", a+1)
		}
		if whole := s.all[a]; s.root[a] == a+1 {
			if behind := append(slices.Clone(whole[i+1:]), 0)[0]; s.next[h-1] != behind {
				t.Error("P4.8: Next of", h)
			}
		}
	}
	var left []int
	for _, h := range s.deep[a] {
		if slices.Contains(s.all[a], h) {
			left = append(left, h)
		}
	}
	if !slices.Equal(left, s.all[a]) {
		t.Error("P4.11: Deep has not All in it:", a+1)
	}
	if !s.holds[s.top[a]-1][a] {
		t.Error("P4.11: Top does not hold", a+1)
	}
}

func (s answers) wantTwo(t *testing.T, f api.Forest, a, b int) {
	t.Helper()
	if s.oneTree[a][b] && (s.cmp[a][b] != -s.cmp[b][a] || (s.cmp[a][b] == 0) != (a == b)) {
		t.Error("P4.8: Cmp, turned:", a+1, b+1)
	}
	p, q := s.position[a][b], s.position[b][a]
	if p&33 != q&33 || (p&2 != 0) != (q&4 != 0) || (p&8 != 0) != (q&16 != 0) || (p&4 != 0) != (q&2 != 0) || (p&16 != 0) != (q&8 != 0) {
		t.Error("P4.9: Compare, turned:", a+1, b+1, p, q)
	}
	if s.contains[a][b] && s.root[a] != s.root[b] || s.contains[a][b] != slices.Contains(s.all[a], b+1) {
		t.Error("P4.10: Contains:", a+1, b+1)
	}
	if c := s.common[a][b]; c != 0 {
		if !s.contains[c-1][a] || !s.contains[c-1][b] {
			t.Error("P4.10: Common does not contain both:", a+1, b+1)
		}
		for _, kid := range f.Nodes[c-1].Kids {
			if s.contains[kid-1][a] && s.contains[kid-1][b] {
				t.Error("P4.10: a kid of Common contains both:", a+1, b+1)
			}
		}
	} else if s.root[a] == s.root[b] {
		t.Error("P4.10: no Common:", a+1, b+1)
	}
}

// P4.7: lists are new memory, and the forest is left alone.
func TestNewMemory(t *testing.T) {
	f := tall()
	for name, call := range map[string]func(api.Forest, int) ([]int, api.Errno){
		"Ancestors": order.Ancestors, "All": order.All, "Deep": order.Deep,
	} {
		for h := 1; h <= 6; h++ {
			first, _ := call(f, h)
			kept := slices.Clone(first)
			second, _ := call(f, h)
			second = second[:cap(second)]
			for i := range second {
				second[i] = 99
			}
			if !slices.Equal(first, kept) || !forest.Same(f, tall()) {
				t.Errorf("%s(%d) shares memory", name, h)
			}
			g := tall()
			first, _ = call(g, h)
			for _, n := range g.Nodes {
				for i := range n.Kids {
					n.Kids[i] = 99
				}
			}
			if !slices.Equal(first, kept) {
				t.Errorf("%s(%d) changes with the forest", name, h)
			}
		}
	}
	for _, call := range calls() {
		call(f, 4, 6)
	}
	if !forest.Same(f, tall()) {
		t.Error("the forest is changed")
	}
}

// P4.1 to P4.6, and P1: as many nodes as may be, as deep as can be, through shadow trees and without them.
func TestDeepTrees(t *testing.T) {
	for _, shadows := range []bool{false, true} {
		f := forest.New(false)
		for h := 2; h <= api.MaxNodes; h++ {
			n := api.Node{Kind: api.KindElement, Name: local("e"), Parent: h - 1, Doc: 1}
			if over := &f.Nodes[h-2]; shadows && h%2 == 1 {
				over.Shadow = h
				n = api.Node{Kind: api.KindShadow, Host: h - 1, Mode: api.ShadowOpen, Doc: 1}
			} else {
				over.Kids = []int{h}
			}
			f.Nodes = append(f.Nodes, n)
		}
		top, why := order.Top(f, api.MaxNodes)
		deep, _ := order.Deep(f, 1)
		holds, _ := order.Holds(f, 1, api.MaxNodes)
		if top != 1 || why != api.OK || len(deep) != api.MaxNodes || !holds {
			t.Error(shadows, top, why, len(deep), holds)
		}
		n, oneTree, _ := order.Cmp(f, 1, api.MaxNodes)
		if oneTree == shadows || n != 0 == shadows {
			t.Error(shadows, n, oneTree)
		}
		number(t, "Next of the last one", 0)(order.Next(f, api.MaxNodes))
	}
}
