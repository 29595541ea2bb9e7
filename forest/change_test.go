package forest_test

import (
	"math"
	"slices"
	"strings"
	"testing"

	"canopy/api"
	"canopy/forest"
	"canopy/sample"
)

// does is Apply's answer, which must be OK.
func does(t *testing.T, f api.Forest, c api.Change) api.Forest {
	t.Helper()
	g, why := forest.Apply(f, c)
	if why != api.OK {
		t.Fatalf("Apply of %+v: error %d", c, why)
	}
	return g
}

// refuses sees that Apply, Undo and All all say why, and nothing else.
func refuses(t *testing.T, what string, f api.Forest, c api.Change, want api.Errno) {
	t.Helper()
	was, wasChange := sample.Copy(f), sample.CopyChange(c)
	if g, why := forest.Apply(f, c); why != want || g.Nodes != nil {
		t.Errorf("%s: Apply = %v, %d; want %d", what, g, why, want)
	}
	if back, why := forest.Undo(f, c); why != want || back.Kind != 0 || len(set(back)) != 0 {
		t.Errorf("%s: Undo = %v, %d; want %d", what, back, why, want)
	}
	nothing := api.Change{Kind: api.ChangeTree}
	if g, n, why := forest.All(f, []api.Change{nothing, nothing, c, nothing}); why != want || n != 2 || g.Nodes != nil {
		t.Errorf("%s: All = %v, %d, %d; want 2, %d", what, g, n, why, want)
	}
	if !forest.Same(f, was) || !sample.SameChange(c, wasChange) {
		t.Errorf("%s: what was handed in is changed", what)
	}
}

// Chapter 3, example 1.
func TestFirstExample(t *testing.T) {
	f := forest.New(true)
	wantCheck(t, "New", f, api.OK, 0)
	p := api.Node{Kind: api.KindElement, Name: local("p"), Doc: 1}
	f, h, why := forest.Add(f, p)
	if h != 2 || why != api.OK {
		t.Fatal("Add:", h, why)
	}
	f = does(t, f, api.Change{Kind: api.ChangeInsert, Node: 2, Parent: 1})
	if s, why := forest.Print(f, 1); s != "#document\n  <p>\n" || why != api.OK {
		t.Errorf("Print: %q, %d", s, why)
	}
	f, h, _ = forest.Add(f, p)
	refuses(t, "a second element", f, api.Change{Kind: api.ChangeInsert, Node: h, Parent: 1, Index: 1}, api.ErrRange)
}

// Chapter 3, example 2.
func TestSecondExample(t *testing.T) {
	own := api.Forest{Nodes: []api.Node{{Kind: api.KindDocument, Doc: 1}, {Kind: api.KindElement, Name: local("p"), Doc: 1, Parent: 2}}}
	wantCheck(t, "its own Parent", own, api.ErrForest, 2)
	f, _, _ := forest.Add(forest.New(true), api.Node{Kind: api.KindElement, Name: local("p"), Doc: 1})
	has := api.Change{Kind: api.ChangeAttr, Node: 2, Name: local("id"), Has: true, Value: "a"}
	g := does(t, f, has)
	if !slices.Equal(g.Nodes[1].Attrs, []api.Attr{{Name: local("id"), Value: "a"}}) {
		t.Error(g.Nodes[1].Attrs)
	}
	back, why := forest.Undo(f, has)
	if why != api.OK || !forest.Same(does(t, g, back), f) {
		t.Error(back, why)
	}
}

// 3.1: every call says first that a forest is not right.
func TestForestFirst(t *testing.T) {
	bad := wood()
	bad.Nodes[4].Doc = 0
	for _, f := range []api.Forest{bad, flat(api.MaxNodes + 1)} {
		c := api.Change{Kind: api.ChangeCount}
		if g, why := forest.Apply(f, c); why != api.ErrForest || g.Nodes != nil {
			t.Error("Apply:", why)
		}
		if g, why := forest.Apply(f, api.Change{Kind: api.ChangeMake, Node: len(f.Nodes) + 1}); why != api.ErrForest || g.Nodes != nil {
			t.Error("Apply, of a node more:", why)
		}
		if g, h, why := forest.Add(f, api.Node{}); why != api.ErrForest || h != 0 || g.Nodes != nil {
			t.Error("Add:", h, why)
		}
		if g, n, why := forest.All(f, make([]api.Change, api.MaxList+1)); why != api.ErrForest || n != 0 || g.Nodes != nil {
			t.Error("All:", n, why)
		}
		if g, n, why := forest.All(f, nil); why != api.ErrForest || n != 0 || g.Nodes != nil {
			t.Error("All of none:", n, why)
		}
		if back, why := forest.Undo(f, c); why != api.ErrForest || len(set(back)) != 0 {
			t.Error("Undo:", why)
		}
		if s, why := forest.Print(f, 0); why != api.ErrForest || s != "" {
			t.Error("Print:", why)
		}
	}
}

// Words (ChangeMake), 3.2: nodes of every kind but shadow roots are made, by the next handle.
func TestMake(t *testing.T) {
	for _, n := range wood().Nodes {
		n.Parent, n.Kids, n.Shadow, n.Host = 0, nil, 0, 0
		n.Doc = 13
		if n.Kind == api.KindDocument {
			n.Doc = 15
		}
		c := api.Change{Kind: api.ChangeMake, Node: 15, Made: n}
		if n.Kind == api.KindShadow {
			refuses(t, "a shadow root", wood(), c, api.ErrRange)
			continue
		}
		g := does(t, wood(), c)
		want := api.Forest{Nodes: append(wood().Nodes, n)}
		if !forest.Same(g, want) {
			t.Error(g.Nodes[14])
		}
		f, h, why := forest.Add(wood(), n)
		if !forest.Same(f, want) || h != 15 || why != api.OK {
			t.Error("Add:", h, why)
		}
	}
	element := api.Node{Kind: api.KindElement, Name: local("e"), Doc: 1}
	for _, h := range []int{0, -1, 1, 14, 16, math.MaxInt, math.MinInt} {
		refuses(t, "another handle", wood(), api.Change{Kind: api.ChangeMake, Node: h, Made: element}, api.ErrRange)
	}
	if _, h, why := forest.Add(api.Forest{}, api.Node{Kind: api.KindDocument, Doc: 1}); h != 1 || why != api.OK {
		t.Error("a document where nothing is:", h, why)
	}
}

// Words (ChangeMake): the forest must be right then.
func TestMakeWrong(t *testing.T) {
	element := api.Node{Kind: api.KindElement, Name: local("e"), Doc: 1}
	for what, turn := range map[string]func(n *api.Node){
		"nothing":                     func(n *api.Node) { *n = api.Node{} },
		"no kind":                     func(n *api.Node) { n.Kind = 2 },
		"no name":                     func(n *api.Node) { n.Name.Local = "" },
		"a long name":                 func(n *api.Node) { n.Name.Local = strings.Repeat("n", api.MaxName+1) },
		"a Parent":                    func(n *api.Node) { n.Parent = 10 },
		"itself as Parent":            func(n *api.Node) { n.Parent = 15 },
		"itself as Parent and kid":    func(n *api.Node) { n.Parent, n.Kids = 15, []int{15} },
		"a kid":                       func(n *api.Node) { n.Kids = []int{14} },
		"a kid that is none":          func(n *api.Node) { n.Kids = []int{16} },
		"a Shadow":                    func(n *api.Node) { n.Shadow = 9 },
		"a Host":                      func(n *api.Node) { n.Host = 14 },
		"no Doc":                      func(n *api.Node) { n.Doc = 0 },
		"a Doc that is none":          func(n *api.Node) { n.Doc = 16 },
		"itself as Doc":               func(n *api.Node) { n.Doc = 15 },
		"a Doc that is an element":    func(n *api.Node) { n.Doc = 14 },
		"a document of another one":   func(n *api.Node) { *n = api.Node{Kind: api.KindDocument, Doc: 1} },
		"a shadow root":               func(n *api.Node) { *n = api.Node{Kind: api.KindShadow, Doc: 1, Mode: 1} },
		"a shadow root with its Host": func(n *api.Node) { *n = api.Node{Kind: api.KindShadow, Doc: 13, Mode: 1, Host: 14} },
	} {
		n := element
		turn(&n)
		refuses(t, what, wood(), api.Change{Kind: api.ChangeMake, Node: 15, Made: n}, api.ErrRange)
		if g, h, why := forest.Add(wood(), n); why != api.ErrRange || h != 0 || g.Nodes != nil {
			t.Errorf("%s: Add = %d, %d", what, h, why)
		}
	}
}

// 3.2: there are MaxNodes nodes at most, and that is said ahead of all else that is wrong with a change.
func TestManyNodes(t *testing.T) {
	text := api.Node{Kind: api.KindText, Doc: 1}
	most, h, why := forest.Add(flat(api.MaxNodes-1), text)
	if h != api.MaxNodes || why != api.OK {
		t.Fatal("the last node:", h, why)
	}
	root := api.Node{Kind: api.KindShadow, Mode: api.ShadowOpen}
	does(t, flat(api.MaxNodes-1), api.Change{Kind: api.ChangeShadow, Node: 2, Other: api.MaxNodes, Made: root})
	for what, c := range map[string]api.Change{
		"a node":                      {Kind: api.ChangeMake, Node: api.MaxNodes + 1, Made: text},
		"a node that is wrong":        {Kind: api.ChangeMake},
		"a shadow root":               {Kind: api.ChangeShadow, Node: 2, Other: api.MaxNodes + 1, Made: root},
		"a shadow root that is wrong": {Kind: api.ChangeShadow, Index: 4},
	} {
		refuses(t, what, most, c, api.ErrMany)
	}
	if g, h, why := forest.Add(most, text); why != api.ErrMany || h != 0 || g.Nodes != nil {
		t.Error("Add:", h, why)
	}
	does(t, most, api.Change{Kind: api.ChangeInsert, Node: api.MaxNodes, Parent: 2})
	refuses(t, "another kind", most, api.Change{Kind: api.ChangeInsert, Node: api.MaxNodes + 1, Parent: 2}, api.ErrRange)
}

// Words (ChangeInsert): at each place from the first to behind the last one.
func TestInsert(t *testing.T) {
	f, h, _ := forest.Add(wood(), api.Node{Kind: api.KindText, Doc: 1})
	for i, want := range [][]int{{15, 6, 7, 8}, {6, 15, 7, 8}, {6, 7, 15, 8}, {6, 7, 8, 15}} {
		g := does(t, f, api.Change{Kind: api.ChangeInsert, Node: h, Parent: 4, Index: i})
		if !slices.Equal(g.Nodes[3].Kids, want) || g.Nodes[14].Parent != 4 {
			t.Error(i, g.Nodes[3].Kids, g.Nodes[14].Parent)
		}
	}
	for _, parent := range []int{8, 9, 10, 11} {
		g := does(t, f, api.Change{Kind: api.ChangeInsert, Node: h, Parent: parent})
		if g.Nodes[parent-1].Kids[0] != h || g.Nodes[h-1].Parent != parent {
			t.Error("into", parent)
		}
	}
	for what, c := range map[string]api.Change{
		"behind the last place":     {Node: h, Parent: 4, Index: 4},
		"ahead of the first":        {Node: h, Parent: 4, Index: -1},
		"far behind":                {Node: h, Parent: 4, Index: math.MaxInt},
		"far ahead":                 {Node: h, Parent: 4, Index: math.MinInt},
		"nothing":                   {Node: 0, Parent: 4},
		"what is not there":         {Node: 16, Parent: 4},
		"below 0":                   {Node: -1, Parent: 4},
		"into nothing":              {Node: h, Parent: 0},
		"into what is not there":    {Node: h, Parent: 16},
		"into below 0":              {Node: h, Parent: -1},
		"what has a Parent":         {Node: 12, Parent: 4},
		"what has this Parent":      {Node: 6, Parent: 4},
		"into itself":               {Node: h, Parent: h},
		"a document":                {Node: 1, Parent: 11},
		"a document, of its own":    {Node: 13, Parent: 14},
		"a fragment":                {Node: 11, Parent: 4},
		"a shadow root":             {Node: 9, Parent: 4},
		"into a text":               {Node: h, Parent: 6},
		"into a comment":            {Node: h, Parent: 2},
		"into a doctype":            {Node: h, Parent: 3},
		"a text into a document":    {Node: h, Parent: 1},
		"what is of another one":    {Node: 14, Parent: 4},
		"a doctype into an element": {Node: 15, Parent: 4},
	} {
		c.Kind = api.ChangeInsert
		g := f
		if strings.HasPrefix(what, "a doctype") {
			g, _, _ = forest.Add(wood(), api.Node{Kind: api.KindDoctype, Name: local("d"), Doc: 1})
		}
		refuses(t, what, g, c, api.ErrRange)
	}
}

// Words (ChangeInsert): a document has one element and one doctype, which stands ahead; there is no ring, not even through a Host.
func TestInsertWrongTrees(t *testing.T) {
	element := api.Node{Kind: api.KindElement, Name: local("e"), Doc: 1}
	doctype := api.Node{Kind: api.KindDoctype, Name: local("d"), Doc: 1}
	f := forest.New(false)
	f, _, _ = forest.Add(f, element)
	f, _, _ = forest.Add(f, doctype)
	f, _, _ = forest.Add(f, element)
	f, _, _ = forest.Add(f, doctype)
	f = does(t, f, api.Change{Kind: api.ChangeInsert, Node: 2, Parent: 1})
	refuses(t, "a doctype behind the element", f, api.Change{Kind: api.ChangeInsert, Node: 3, Parent: 1, Index: 1}, api.ErrRange)
	f = does(t, f, api.Change{Kind: api.ChangeInsert, Node: 3, Parent: 1, Index: 0})
	for i := range 3 {
		refuses(t, "a second element", f, api.Change{Kind: api.ChangeInsert, Node: 4, Parent: 1, Index: i}, api.ErrRange)
		refuses(t, "a second doctype", f, api.Change{Kind: api.ChangeInsert, Node: 5, Parent: 1, Index: i}, api.ErrRange)
	}
	only := does(t, does(t, f, api.Change{Kind: api.ChangeRemove, Node: 2, Parent: 1, Index: 1}),
		api.Change{Kind: api.ChangeRemove, Node: 3, Parent: 1})
	if len(only.Nodes[0].Kids) != 0 {
		t.Error(only.Nodes[0].Kids)
	}
	only = does(t, only, api.Change{Kind: api.ChangeInsert, Node: 5, Parent: 1})
	refuses(t, "an element ahead of the doctype", only, api.Change{Kind: api.ChangeInsert, Node: 4, Parent: 1}, api.ErrRange)

	ring := wood()
	ring = does(t, ring, api.Change{Kind: api.ChangeRemove, Node: 4, Parent: 1, Index: 2})
	for _, parent := range []int{4, 8, 9, 10} {
		refuses(t, "a ring", ring, api.Change{Kind: api.ChangeInsert, Node: 4, Parent: parent}, api.ErrRange)
	}
}

// Words (ChangeRemove): of a kid that stands where it is said to.
func TestRemove(t *testing.T) {
	for i, kid := range []int{6, 7, 8} {
		g := does(t, wood(), api.Change{Kind: api.ChangeRemove, Node: kid, Parent: 4, Index: i})
		want := slices.Delete([]int{6, 7, 8}, i, i+1)
		if !slices.Equal(g.Nodes[3].Kids, want) || g.Nodes[kid-1].Parent != 0 {
			t.Error(kid, g.Nodes[3].Kids)
		}
	}
	g := does(t, wood(), api.Change{Kind: api.ChangeRemove, Node: 10, Parent: 9})
	if len(g.Nodes[8].Kids) != 0 || g.Nodes[9].Parent != 0 || g.Nodes[8].Host != 8 {
		t.Error("out of a shadow tree:", g.Nodes[8])
	}
	for what, c := range map[string]api.Change{
		"another place":            {Node: 7, Parent: 4, Index: 0},
		"behind the last":          {Node: 8, Parent: 4, Index: 3},
		"ahead of the first":       {Node: 6, Parent: 4, Index: -1},
		"far behind":               {Node: 6, Parent: 4, Index: math.MaxInt},
		"far ahead":                {Node: 6, Parent: 4, Index: math.MinInt},
		"another parent":           {Node: 6, Parent: 1},
		"no parent":                {Node: 6, Parent: 0},
		"what hangs nowhere":       {Node: 14, Parent: 0},
		"of one without kids":      {Node: 14, Parent: 10},
		"nothing":                  {Node: 0, Parent: 4},
		"what is not there":        {Node: 15, Parent: 4},
		"of what is not there":     {Node: 6, Parent: 15},
		"below 0":                  {Node: -6, Parent: 4},
		"of below 0":               {Node: 6, Parent: -4},
		"a shadow root of a host":  {Node: 9, Parent: 8},
		"a parent of its own kids": {Node: 4, Parent: 6},
	} {
		c.Kind = api.ChangeRemove
		refuses(t, what, wood(), c, api.ErrRange)
	}
}

// Words (ChangeAdopt): a node, all within it, its shadow tree, and what is within that.
func TestAdopt(t *testing.T) {
	f := does(t, wood(), api.Change{Kind: api.ChangeRemove, Node: 4, Parent: 1, Index: 2})
	f, _, _ = forest.Add(f, api.Node{Kind: api.KindText, Doc: 1})
	f = does(t, f, api.Change{Kind: api.ChangeInsert, Node: 15, Parent: 10})
	g := does(t, f, api.Change{Kind: api.ChangeAdopt, Node: 4, Doc: 13})
	for i, n := range g.Nodes {
		want := f.Nodes[i].Doc
		if slices.Contains([]int{4, 6, 7, 8, 9, 10, 15}, i+1) {
			want = 13
		}
		if n.Doc != want {
			t.Errorf("%d: Doc = %d, want %d", i+1, n.Doc, want)
		}
	}
	if same := does(t, f, api.Change{Kind: api.ChangeAdopt, Node: 4, Doc: 1}); !forest.Same(same, f) {
		t.Error("adopted by its own document")
	}
	if g := does(t, wood(), api.Change{Kind: api.ChangeAdopt, Node: 11, Doc: 13}); g.Nodes[10].Doc != 13 || g.Nodes[11].Doc != 13 {
		t.Error("a fragment:", g.Nodes[10:12])
	}
	for what, c := range map[string]api.Change{
		"a document":                {Node: 13, Doc: 1},
		"a document by itself":      {Node: 13, Doc: 13},
		"a shadow root":             {Node: 9, Doc: 13},
		"a shadow root by its own":  {Node: 9, Doc: 1},
		"what has a Parent":         {Node: 4, Doc: 13},
		"what hangs in a shadow":    {Node: 10, Doc: 13},
		"nothing":                   {Node: 0, Doc: 13},
		"what is not there":         {Node: 15, Doc: 13},
		"by nothing":                {Node: 14, Doc: 0},
		"by what is not there":      {Node: 14, Doc: 15},
		"by below 0":                {Node: 14, Doc: -1},
		"by what is no document":    {Node: 14, Doc: 4},
		"by a fragment":             {Node: 14, Doc: 11},
		"what is below 0":           {Node: -1, Doc: 13},
		"by far more than there is": {Node: 14, Doc: math.MaxInt},
	} {
		c.Kind = api.ChangeAdopt
		refuses(t, what, wood(), c, api.ErrRange)
	}
}

// Words (ChangeData): some units are others.
func TestData(t *testing.T) {
	for _, c := range []struct {
		node, offset, count int
		data, want          api.Units
	}{
		{6, 0, 0, nil, api.Units{4, 5, 6}},
		{6, 0, 0, api.Units{1}, api.Units{1, 4, 5, 6}},
		{6, 1, 1, api.Units{1, 2}, api.Units{4, 1, 2, 6}},
		{6, 3, 0, api.Units{1}, api.Units{4, 5, 6, 1}},
		{6, 2, 1, nil, api.Units{4, 5}},
		{6, 0, 3, nil, nil},
		{6, 0, 3, api.Units{0xd800}, api.Units{0xd800}},
		{7, 0, 1, api.Units{8}, api.Units{8}},
		{5, 0, 1, api.Units{8}, api.Units{8}},
		{2, 1, 1, api.Units{8}, api.Units{1, 8}},
		{12, 0, 0, api.Units{8}, api.Units{8}},
	} {
		g := does(t, wood(), api.Change{Kind: api.ChangeData, Node: c.node, Offset: c.offset, Count: c.count, Data: c.data})
		if !slices.Equal(g.Nodes[c.node-1].Data, c.want) {
			t.Error(c, g.Nodes[c.node-1].Data)
		}
	}
	for what, c := range map[string]api.Change{
		"one more than there are":      {Node: 6, Offset: 0, Count: 4},
		"one more, from within":        {Node: 6, Offset: 2, Count: 2},
		"one more, at the end":         {Node: 6, Offset: 3, Count: 1},
		"from behind the end":          {Node: 6, Offset: 4, Count: 0},
		"from below 0":                 {Node: 6, Offset: -1, Count: 1},
		"fewer than none":              {Node: 6, Offset: 1, Count: -1},
		"far":                          {Node: 6, Offset: math.MaxInt, Count: math.MaxInt},
		"far below":                    {Node: 6, Offset: math.MinInt, Count: math.MinInt},
		"as many as wrap round":        {Node: 6, Offset: 1, Count: math.MaxInt},
		"an offset of 2^32":            {Node: 6, Offset: 1 << 32, Count: 0},
		"an offset of -2^32":           {Node: 6, Offset: -1 << 32, Count: 0},
		"a count of 2^32":              {Node: 6, Offset: 0, Count: 1 << 32},
		"a count of -2^32":             {Node: 6, Offset: 0, Count: -1 << 32},
		"of an element":                {Node: 4},
		"of a document":                {Node: 1},
		"of a doctype":                 {Node: 3},
		"of a fragment":                {Node: 11},
		"of a shadow root":             {Node: 9},
		"of nothing":                   {Node: 0},
		"of what is not there":         {Node: 15},
		"of below 0":                   {Node: -1},
		"too much, put to what is one": {Node: 6, Data: make(api.Units, api.MaxData-2)},
	} {
		c.Kind = api.ChangeData
		refuses(t, what, wood(), c, api.ErrRange)
	}
	g := does(t, wood(), api.Change{Kind: api.ChangeData, Node: 6, Data: make(api.Units, api.MaxData-3)})
	if len(g.Nodes[5].Data) != api.MaxData {
		t.Error("the longest data:", len(g.Nodes[5].Data))
	}
	does(t, g, api.Change{Kind: api.ChangeData, Node: 6, Count: 5, Data: make(api.Units, 5)})
	refuses(t, "one unit more", g, api.Change{Kind: api.ChangeData, Node: 6, Count: 5, Data: make(api.Units, 6)}, api.ErrRange)
}

// named has three attributes at 2, the second one by a namespace and a prefix.
func named() api.Forest {
	f := forest.New(false)
	f.Nodes = append(f.Nodes, api.Node{Kind: api.KindElement, Name: local("e"), Doc: 1, Attrs: []api.Attr{
		{Name: local("a"), Value: "1"}, {Name: api.Name{Space: "u", Prefix: "p", Local: "a"}, Value: "2"}, {Name: local("c"), Value: ""},
	}})
	return f
}

// Words (ChangeAttr): had, has, at its place, by the name that it had.
func TestAttr(t *testing.T) {
	spaced := api.Name{Space: "u", Prefix: "p", Local: "a"}
	other := api.Name{Space: "u", Prefix: "q", Local: "a"}
	a, b, c := api.Attr{Name: local("a"), Value: "1"}, api.Attr{Name: spaced, Value: "2"}, api.Attr{Name: local("c")}
	for _, x := range []struct {
		change api.Change
		want   []api.Attr
	}{
		{api.Change{Name: local("d"), Has: true, Value: "4"}, []api.Attr{a, b, c, {Name: local("d"), Value: "4"}}},
		{api.Change{Name: local("d"), Has: true}, []api.Attr{a, b, c, {Name: local("d")}}},
		{api.Change{Name: api.Name{Space: "w", Prefix: "p", Local: "a"}, Has: true}, []api.Attr{a, b, c, {Name: api.Name{Space: "w", Prefix: "p", Local: "a"}}}},
		{api.Change{Name: local("a"), Had: true, Old: "1", Has: true, Value: "5"}, []api.Attr{{Name: local("a"), Value: "5"}, b, c}},
		{api.Change{Name: local("a"), Had: true, Old: "1", Has: true, Value: "1"}, []api.Attr{a, b, c}},
		{api.Change{Name: local("c"), Had: true, Has: true, Value: "5"}, []api.Attr{a, b, {Name: local("c"), Value: "5"}}},
		{api.Change{Name: spaced, Had: true, Old: "2", Has: true, Value: ""}, []api.Attr{a, {Name: spaced}, c}},
		{api.Change{Name: other, Had: true, Old: "2", Has: true, Value: "5"}, []api.Attr{a, {Name: spaced, Value: "5"}, c}},
		{api.Change{Name: other, Had: true, Old: "2"}, []api.Attr{a, c}},
		{api.Change{Name: local("a"), Had: true, Old: "1"}, []api.Attr{b, c}},
		{api.Change{Name: local("c"), Had: true}, []api.Attr{a, b}},
		{api.Change{Name: api.Name{Prefix: "p", Local: "a"}, Had: true, Old: "1"}, []api.Attr{b, c}},
	} {
		x.change.Kind, x.change.Node = api.ChangeAttr, 2
		if g := does(t, named(), x.change); !slices.Equal(g.Nodes[1].Attrs, x.want) {
			t.Errorf("%+v: %v", x.change, g.Nodes[1].Attrs)
		}
	}
}

// Words (ChangeAttr): what can not be done.
func TestAttrWrong(t *testing.T) {
	long := strings.Repeat("n", api.MaxName+1)
	for what, c := range map[string]api.Change{
		"neither had nor has":                 {Name: local("d")},
		"neither, of one that is there":       {Name: local("a")},
		"had not, but there is one":           {Name: local("a"), Has: true},
		"had not, but there is one, by value": {Name: local("a"), Old: "1", Has: true},
		"had, but there is none":              {Name: local("d"), Had: true, Has: true},
		"had none, taken away":                {Name: local("d"), Had: true},
		"had in another namespace":            {Name: api.Name{Space: "w", Local: "a"}, Had: true, Old: "1"},
		"another old value":                   {Name: local("a"), Had: true, Old: "2", Has: true},
		"another old value, taken away":       {Name: local("a"), Had: true, Old: "2"},
		"an old value of none":                {Name: local("d"), Old: "1", Has: true},
		"a value of what is taken away":       {Name: local("a"), Had: true, Old: "1", Value: "1"},
		"no name":                             {Has: true},
		"no Local":                            {Name: api.Name{Space: "u"}, Has: true},
		"a prefix without a namespace":        {Name: api.Name{Prefix: "p", Local: "d"}, Has: true},
		"a long Local":                        {Name: local(long), Has: true},
		"a long prefix":                       {Name: api.Name{Space: "u", Prefix: long, Local: "d"}, Has: true},
		"a long namespace":                    {Name: api.Name{Space: long, Local: "d"}, Has: true},
		"a long value":                        {Name: local("d"), Has: true, Value: strings.Repeat("v", api.MaxValue+1)},
		"a long value of one that is there":   {Name: local("c"), Had: true, Has: true, Value: strings.Repeat("v", api.MaxValue+1)},
	} {
		c.Kind, c.Node = api.ChangeAttr, 2
		refuses(t, what, named(), c, api.ErrRange)
	}
	for _, h := range []int{-1, 0, 1, 2, 3, 5, 6, 7, 9, 11, 13, 15, math.MaxInt} {
		refuses(t, "no element", wood(), api.Change{Kind: api.ChangeAttr, Node: h, Name: local("d"), Has: true}, api.ErrRange)
	}
	does(t, named(), api.Change{Kind: api.ChangeAttr, Node: 2, Name: local(long[1:]), Has: true, Value: strings.Repeat("v", api.MaxValue)})
	f := forest.New(false)
	f.Nodes = append(f.Nodes, api.Node{Kind: api.KindElement, Name: local("e"), Doc: 1, Attrs: manyAttrs(api.MaxAttrs - 1)})
	f = does(t, f, api.Change{Kind: api.ChangeAttr, Node: 2, Name: local("last"), Has: true})
	refuses(t, "one more", f, api.Change{Kind: api.ChangeAttr, Node: 2, Name: local("more"), Has: true}, api.ErrRange)
	does(t, f, api.Change{Kind: api.ChangeAttr, Node: 2, Name: local("last"), Had: true, Has: true, Value: "v"})
}

// Words (ChangeShadow): an element gets a shadow root.
func TestShadow(t *testing.T) {
	for _, made := range []api.Node{
		{Kind: api.KindShadow, Mode: api.ShadowOpen}, {Kind: api.KindShadow, Mode: api.ShadowClosed, Manual: true},
		{Kind: api.KindShadow, Mode: api.ShadowOpen, Kids: []int{}, Data: api.Units{}, Attrs: []api.Attr{}},
	} {
		g := does(t, wood(), api.Change{Kind: api.ChangeShadow, Node: 14, Other: 15, Made: made})
		want := wood()
		want.Nodes[13].Shadow = 15
		want.Nodes = append(want.Nodes, api.Node{Kind: api.KindShadow, Doc: 13, Host: 14, Mode: made.Mode, Manual: made.Manual})
		if !forest.Same(g, want) {
			t.Error(g.Nodes[13:])
		}
	}
	root := api.Node{Kind: api.KindShadow, Mode: api.ShadowOpen}
	for what, c := range map[string]api.Change{
		"one that has a Shadow": {Node: 8, Other: 15, Made: root},
		"a text":                {Node: 6, Other: 15, Made: root},
		"a document":            {Node: 13, Other: 15, Made: root},
		"a shadow root":         {Node: 9, Other: 15, Made: root},
		"a fragment":            {Node: 11, Other: 15, Made: root},
		"nothing":               {Node: 0, Other: 15, Made: root},
		"what is not there":     {Node: 16, Other: 15, Made: root},
		"itself":                {Node: 15, Other: 15, Made: root},
		"below 0":               {Node: -1, Other: 15, Made: root},
		"no Other":              {Node: 14, Made: root},
		"Other is there":        {Node: 14, Other: 9, Made: root},
		"Other is further":      {Node: 14, Other: 16, Made: root},
		"nothing made":          {Node: 14, Other: 15},
		"no Kind":               {Node: 14, Other: 15, Made: api.Node{Mode: api.ShadowOpen}},
		"another Kind":          {Node: 14, Other: 15, Made: api.Node{Kind: api.KindFragment, Mode: api.ShadowOpen}},
		"no Mode":               {Node: 14, Other: 15, Made: api.Node{Kind: api.KindShadow}},
		"a Mode of none":        {Node: 14, Other: 15, Made: api.Node{Kind: api.KindShadow, Mode: api.ShadowCount}},
	} {
		c.Kind = api.ChangeShadow
		refuses(t, what, wood(), c, api.ErrRange)
	}
	for what, turn := range map[string]func(n *api.Node){
		"a Doc":    func(n *api.Node) { n.Doc = 13 },
		"a Host":   func(n *api.Node) { n.Host = 14 },
		"a Shadow": func(n *api.Node) { n.Shadow = 15 },
		"a Parent": func(n *api.Node) { n.Parent = 14 },
		"Kids":     func(n *api.Node) { n.Kids = []int{14} },
		"a name":   func(n *api.Node) { n.Name.Local = "a" },
		"Public":   func(n *api.Node) { n.Public = "a" },
		"System":   func(n *api.Node) { n.System = "a" },
		"Data":     func(n *api.Node) { n.Data = api.Units{1} },
		"Attrs":    func(n *api.Node) { n.Attrs = []api.Attr{attr("a")} },
		"HTML":     func(n *api.Node) { n.HTML = true },
	} {
		made := root
		turn(&made)
		refuses(t, what, wood(), api.Change{Kind: api.ChangeShadow, Node: 14, Other: 15, Made: made}, api.ErrRange)
	}
}

// Words (ChangeSplit, ChangeMerge, ChangeTree): nothing becomes of them; the nodes that they name are there, or 0.
func TestTelling(t *testing.T) {
	for _, kind := range []api.ChangeKind{api.ChangeSplit, api.ChangeMerge} {
		for _, c := range []api.Change{
			{}, {Node: 6, Other: 7, Offset: 2}, {Node: 14, Offset: math.MaxInt}, {Other: 1, Offset: math.MinInt},
		} {
			c.Kind = kind
			if g := does(t, wood(), c); !forest.Same(g, wood()) {
				t.Error(c, g)
			}
		}
		for _, h := range []int{-1, 15, math.MaxInt, math.MinInt} {
			refuses(t, "Node", wood(), api.Change{Kind: kind, Node: h, Other: 7}, api.ErrRange)
			refuses(t, "Other", wood(), api.Change{Kind: kind, Node: 6, Other: h}, api.ErrRange)
		}
	}
	for _, c := range []api.Change{
		{}, {Parent: 4, Added: []int{6, 14}, Removed: []int{1, 1, 0}, Prev: 14, Next: 14}, {Added: []int{}, Removed: []int{}},
		{Added: make([]int, api.MaxList+1)},
	} {
		c.Kind = api.ChangeTree
		if g := does(t, wood(), c); !forest.Same(g, wood()) {
			t.Error(c, g)
		}
	}
	for _, h := range []int{-1, 15, math.MaxInt, math.MinInt} {
		refuses(t, "Parent", wood(), api.Change{Kind: api.ChangeTree, Parent: h}, api.ErrRange)
		refuses(t, "Added", wood(), api.Change{Kind: api.ChangeTree, Parent: 4, Added: []int{0, 6, h}}, api.ErrRange)
		refuses(t, "Removed", wood(), api.Change{Kind: api.ChangeTree, Parent: 4, Removed: []int{h, 6}}, api.ErrRange)
		refuses(t, "Prev", wood(), api.Change{Kind: api.ChangeTree, Prev: h}, api.ErrRange)
		refuses(t, "Next", wood(), api.Change{Kind: api.ChangeTree, Next: h}, api.ErrRange)
	}
}

// ordinary are changes of each kind that can be done to wood.
func ordinary() []api.Change {
	return []api.Change{
		{Kind: api.ChangeMake, Node: 15, Made: api.Node{Kind: api.KindElement, Name: local("n"), Attrs: []api.Attr{attr("a")}, Doc: 1}},
		{Kind: api.ChangeMake, Node: 15, Made: api.Node{Kind: api.KindText, Data: api.Units{1, 2}, Doc: 1}},
		{Kind: api.ChangeInsert, Node: 14, Parent: 13},
		{Kind: api.ChangeRemove, Node: 7, Parent: 4, Index: 1},
		{Kind: api.ChangeAdopt, Node: 14, Doc: 1},
		{Kind: api.ChangeData, Node: 6, Offset: 1, Count: 1, Data: api.Units{1, 2}},
		{Kind: api.ChangeAttr, Node: 4, Name: local("x"), Had: true, Old: "v", Has: true, Value: "w"},
		{Kind: api.ChangeAttr, Node: 4, Name: local("z"), Has: true, Value: "w"},
		{Kind: api.ChangeAttr, Node: 4, Name: local("y"), Had: true, Old: "v"},
		{Kind: api.ChangeShadow, Node: 14, Other: 15, Made: api.Node{Kind: api.KindShadow, Mode: api.ShadowOpen}},
		{Kind: api.ChangeSplit, Node: 6, Other: 7, Offset: 1},
		{Kind: api.ChangeMerge, Node: 6, Other: 7, Offset: 1},
		{Kind: api.ChangeTree, Parent: 4, Added: []int{6}, Removed: []int{14, 12}, Prev: 7, Next: 8},
	}
}

// Words (of each change): fields that its kind has not are zero; empty lists are.
func TestFieldsOfChanges(t *testing.T) {
	setters := map[string]func(c *api.Change){
		"Node":    func(c *api.Change) { c.Node = 14 },
		"Parent":  func(c *api.Change) { c.Parent = 14 },
		"Index":   func(c *api.Change) { c.Index = 1 },
		"Other":   func(c *api.Change) { c.Other = 14 },
		"Doc":     func(c *api.Change) { c.Doc = 1 },
		"Offset":  func(c *api.Change) { c.Offset = 1 },
		"Count":   func(c *api.Change) { c.Count = 1 },
		"Data":    func(c *api.Change) { c.Data = api.Units{1} },
		"Name":    func(c *api.Change) { c.Name.Prefix = "a" },
		"Old":     func(c *api.Change) { c.Old = "a" },
		"Value":   func(c *api.Change) { c.Value = "a" },
		"Had":     func(c *api.Change) { c.Had = true },
		"Has":     func(c *api.Change) { c.Has = true },
		"Made":    func(c *api.Change) { c.Made.HTML = true },
		"Added":   func(c *api.Change) { c.Added = []int{14} },
		"Removed": func(c *api.Change) { c.Removed = []int{0} },
		"Prev":    func(c *api.Change) { c.Prev = 14 },
		"Next":    func(c *api.Change) { c.Next = 14 },
	}
	for _, c := range ordinary() {
		for field, turn := range setters {
			if !slices.Contains(strings.Fields(changeFields[c.Kind]), field) {
				x := c
				turn(&x)
				refuses(t, field, wood(), x, api.ErrRange)
			}
		}
		x := sample.CopyChange(c)
		x.Data, x.Added, x.Removed = append(api.Units{}, c.Data...), append([]int{}, c.Added...), append([]int{}, c.Removed...)
		x.Made.Data, x.Made.Kids = append(api.Units{}, c.Made.Data...), []int{}
		if !forest.Same(does(t, wood(), x), does(t, wood(), c)) {
			t.Error("empty lists:", c)
		}
	}
	for _, kind := range []api.ChangeKind{api.ChangeNone, api.ChangeCount, 12, 255} {
		refuses(t, "no kind", wood(), api.Change{Kind: kind}, api.ErrRange)
	}
}

// 3.2: All does changes one behind the other, tells how many, or which one could not be done.
func TestAll(t *testing.T) {
	text := api.Node{Kind: api.KindText, Doc: 1}
	l := []api.Change{
		{Kind: api.ChangeMake, Node: 15, Made: text},
		{Kind: api.ChangeInsert, Node: 15, Parent: 4, Index: 3},
		{Kind: api.ChangeData, Node: 15, Data: api.Units{1}},
	}
	g, n, why := forest.All(wood(), l)
	want := does(t, does(t, does(t, wood(), l[0]), l[1]), l[2])
	if !forest.Same(g, want) || n != 3 || why != api.OK {
		t.Error(n, why)
	}
	if g, n, why := forest.All(wood(), nil); !forest.Same(g, wood()) || n != 0 || why != api.OK {
		t.Error("of none:", n, why)
	}
	for at := range l {
		bad := slices.Clone(l)
		bad[at].Prev = 1
		if g, n, why := forest.All(wood(), bad); g.Nodes != nil || n != at || why != api.ErrRange {
			t.Error(at, n, why)
		}
	}
	many := []api.Change{l[0], {Kind: api.ChangeMake, Node: api.MaxNodes + 1, Made: text}}
	many[0].Node = api.MaxNodes
	if g, n, why := forest.All(flat(api.MaxNodes-1), many); g.Nodes != nil || n != 1 || why != api.ErrMany {
		t.Error("a node too many:", n, why)
	}
}

// 3.2: a list has at most MaxList changes.
func TestAllLong(t *testing.T) {
	var l []api.Change
	for i := range api.MaxList {
		l = append(l, api.Change{Kind: api.ChangeData, Node: 6, Offset: i, Data: api.Units{uint16(i)}})
	}
	g, n, why := forest.All(wood(), l)
	if n != api.MaxList || why != api.OK || len(g.Nodes[5].Data) != api.MaxList+3 {
		t.Error("most:", n, why)
	}
	if g, n, why := forest.All(wood(), append(l, api.Change{})); g.Nodes != nil || n != 0 || why != api.ErrMany {
		t.Error("more:", n, why)
	}
	if g, n, why := forest.All(wood(), make([]api.Change, api.MaxList+1)); g.Nodes != nil || n != 0 || why != api.ErrMany {
		t.Error("more, of no kind:", n, why)
	}
	if g, n, why := forest.All(wood(), make([]api.Change, api.MaxList)); g.Nodes != nil || n != 0 || why != api.ErrRange {
		t.Error("most, of no kind:", n, why)
	}
}

// anyChange is a change that can be done, or nearly so.
func anyChange(d *sample.Dice, f api.Forest) api.Change {
	h := func() int { return d.Below(len(f.Nodes)+2) - d.Below(2)*d.Below(2) }
	c := api.Change{Kind: api.ChangeKind(1 + d.Below(10)), Node: h()}
	next := len(f.Nodes) + 1
	switch c.Kind {
	case api.ChangeMake:
		c.Node, c.Made = next-d.Below(2)*d.Below(2), sample.Loose(d, f)
		if d.Below(3) == 0 {
			c.Made.Kind = api.NodeKind(d.Below(14))
		}
	case api.ChangeInsert:
		c = sample.Insertion(d, f)
		c.Index += d.Below(2) * d.Below(2)
	case api.ChangeRemove:
		c.Node = 1 + d.Below(len(f.Nodes))
		c.Parent = f.Nodes[c.Node-1].Parent
		c.Index = max(0, slices.Index(get(f, c.Parent).Kids, c.Node)) + d.Below(2)*d.Below(2)
	case api.ChangeAdopt:
		c.Doc = f.Nodes[d.Below(len(f.Nodes))].Doc
	case api.ChangeData:
		c.Offset, c.Count, c.Data = d.Below(7)-d.Below(2), d.Below(4)-d.Below(2), sample.Data(d)
	case api.ChangeAttr:
		c = anyAttr(d, f, c)
	case api.ChangeShadow:
		c.Other, c.Made = next, api.Node{Kind: api.KindShadow, Mode: api.ShadowMode(d.Below(4)), Manual: d.Below(2) == 0}
	case api.ChangeSplit, api.ChangeMerge:
		c.Other, c.Offset = h(), h()
	case api.ChangeTree:
		c.Node, c.Parent, c.Added, c.Removed, c.Prev, c.Next = 0, h(), []int{h()}, []int{h(), h()}, h(), h()
	}
	if d.Below(12) == 0 {
		c.Parent = h()
	}
	return c
}

func anyAttr(d *sample.Dice, f api.Forest, c api.Change) api.Change {
	c.Name, c.Has, c.Had = sample.Name(d), d.Below(2) == 0, d.Below(4) == 0
	if l := get(f, c.Node).Attrs; len(l) > 0 && d.Below(3) > 0 {
		a := l[d.Below(len(l))]
		c.Name, c.Had, c.Old = a.Name, d.Below(8) > 0, a.Value
		if d.Below(4) == 0 {
			c.Name.Prefix = "z"
		}
	}
	if c.Has || d.Below(8) == 0 {
		c.Value = "n"
	}
	return c
}

// 3.2, 3.6, 3.9, and Words: Apply does what the model does, of forests that are grown; what it answers is right; it turns nodes that it names alone.
func TestApplyAsModel(t *testing.T) {
	done, refused := map[api.ChangeKind]int{}, map[api.ChangeKind]int{}
	for seed := range 1500 {
		d := sample.NewDice(seed)
		f := sample.Grow(d, 1+d.Below(12))
		for range 12 {
			c := anyChange(d, f)
			was := sample.Copy(f)
			g, why := forest.Apply(f, c)
			want, wantWhy := modelApply(f, c)
			if why != wantWhy || !forest.Same(g, want) {
				t.Fatalf("%+v\n%+v\n%+v, %d\n%+v, %d", f, c, g, why, want, wantWhy)
			}
			if !forest.Same(f, was) {
				t.Fatalf("%+v: what was handed in is changed", c)
			}
			if why != api.OK {
				refused[c.Kind]++
				continue
			}
			done[c.Kind]++
			wantCheck(t, "what Apply answers", g, api.OK, 0)
			wantNear(t, f, g, c)
			f = g
		}
	}
	for k := api.ChangeMake; k < api.ChangeCount; k++ {
		if done[k] < 100 || refused[k] < 100 {
			t.Errorf("too few of the kind %d: %d done, %d refused", k, done[k], refused[k])
		}
	}
}

// wantNear sees that only nodes that a change names, or an adoption reaches, are others than before.
func wantNear(t *testing.T, f, g api.Forest, c api.Change) {
	t.Helper()
	if len(g.Nodes) < len(f.Nodes) {
		t.Errorf("%+v: fewer nodes", c)
	}
	for i, n := range f.Nodes {
		same := forest.Same(api.Forest{Nodes: []api.Node{n}}, api.Forest{Nodes: g.Nodes[i : i+1]})
		if !same && i+1 != c.Node && i+1 != c.Parent && c.Kind != api.ChangeAdopt {
			t.Errorf("%+v turns %d", c, i+1)
		}
	}
}

// 3.8: All of two lists, one behind the other, is All of both put together.
func TestAllInParts(t *testing.T) {
	for seed := range 300 {
		d := sample.NewDice(seed)
		f := sample.Grow(d, 6)
		var l []api.Change
		g := f
		for range 10 {
			c := anyChange(d, g)
			if next, why := forest.Apply(g, c); why == api.OK || d.Below(20) == 0 {
				l = append(l, c)
				g = next
			}
			if len(g.Nodes) == 0 { // a change that can not be done ends the list
				break
			}
		}
		whole, n, why := forest.All(f, l)
		cut := d.Below(len(l) + 1)
		first, m, firstWhy := forest.All(f, l[:cut])
		if firstWhy != api.OK {
			if n != m || why != firstWhy {
				t.Errorf("%d, %d; the first part: %d, %d", n, why, m, firstWhy)
			}
			continue
		}
		second, k, secondWhy := forest.All(first, l[cut:])
		if !forest.Same(whole, second) || n != m+k || why != secondWhy {
			t.Errorf("%d, %d; in parts: %d and %d, %d", n, why, m, k, secondWhy)
		}
	}
}

// 3.7 and 3.3: what Undo answers, done behind the change, has the forest that there was; ErrType, where there is no such change.
func TestUndoAll(t *testing.T) {
	took, not := map[api.ChangeKind]int{}, map[api.ChangeKind]int{}
	for seed := range 1500 {
		d := sample.NewDice(seed)
		f := sample.Grow(d, 1+d.Below(12))
		for range 12 {
			c := anyChange(d, f)
			g, why := forest.Apply(f, c)
			back, backWhy := forest.Undo(f, c)
			switch {
			case why != api.OK:
				if backWhy != why || len(set(back)) != 0 {
					t.Fatalf("%+v: error %d, Undo's %d", c, why, backWhy)
				}
				continue
			case backWhy == api.OK:
				if x, why := forest.Apply(g, back); why != api.OK || !forest.Same(x, f) {
					t.Fatalf("%+v\n%+v\n%+v, error %d", f, c, back, why)
				}
				took[c.Kind]++
			default:
				if backWhy != api.ErrType || len(set(back)) != 0 || canBeUndone(f, c) {
					t.Fatalf("%+v: %+v, error %d", c, back, backWhy)
				}
				not[c.Kind]++
			}
			f = g
		}
	}
	for k := api.ChangeMake; k < api.ChangeCount; k++ {
		makes := k == api.ChangeMake || k == api.ChangeShadow
		if makes && (took[k] > 0 || not[k] < 100) || !makes && took[k] < 100 || k != api.ChangeAttr && !makes && not[k] > 0 {
			t.Errorf("of the kind %d: %d taken back, %d not", k, took[k], not[k])
		}
	}
	if not[api.ChangeAttr] < 20 {
		t.Error("attributes from between others:", not[api.ChangeAttr])
	}
}

// canBeUndone tells whether there is a change behind c that has f again: of an attribute that was taken away only if it was the last one.
func canBeUndone(f api.Forest, c api.Change) bool {
	if c.Kind != api.ChangeAttr {
		return c.Kind != api.ChangeMake && c.Kind != api.ChangeShadow
	}
	l := f.Nodes[c.Node-1].Attrs
	last := l[len(l)-1].Name
	return c.Has || last.Space == c.Name.Space && last.Local == c.Name.Local
}

// 3.3: which change Undo answers.
func TestUndo(t *testing.T) {
	spaced := api.Name{Space: "u", Prefix: "p", Local: "a"}
	plain := api.Name{Space: "u", Local: "a"}
	onlySpaced := named()
	onlySpaced.Nodes[1].Attrs = onlySpaced.Nodes[1].Attrs[1:2]
	for _, c := range []struct {
		f            api.Forest
		change, want api.Change
	}{
		{wood(), api.Change{Kind: api.ChangeInsert, Node: 14, Parent: 13}, api.Change{Kind: api.ChangeRemove, Node: 14, Parent: 13}},
		{wood(), api.Change{Kind: api.ChangeRemove, Node: 8, Parent: 4, Index: 2}, api.Change{Kind: api.ChangeInsert, Node: 8, Parent: 4, Index: 2}},
		{wood(), api.Change{Kind: api.ChangeAdopt, Node: 14, Doc: 1}, api.Change{Kind: api.ChangeAdopt, Node: 14, Doc: 13}},
		{wood(), api.Change{Kind: api.ChangeAdopt, Node: 11, Doc: 1}, api.Change{Kind: api.ChangeAdopt, Node: 11, Doc: 1}},
		{wood(), api.Change{Kind: api.ChangeData, Node: 6, Offset: 1, Count: 2, Data: api.Units{9}},
			api.Change{Kind: api.ChangeData, Node: 6, Offset: 1, Count: 1, Data: api.Units{5, 6}}},
		{wood(), api.Change{Kind: api.ChangeData, Node: 6, Offset: 3, Data: api.Units{9, 8}},
			api.Change{Kind: api.ChangeData, Node: 6, Offset: 3, Count: 2}},
		{named(), api.Change{Kind: api.ChangeAttr, Node: 2, Name: local("d"), Has: true, Value: "4"},
			api.Change{Kind: api.ChangeAttr, Node: 2, Name: local("d"), Had: true, Old: "4"}},
		{named(), api.Change{Kind: api.ChangeAttr, Node: 2, Name: local("a"), Had: true, Old: "1", Has: true, Value: "4"},
			api.Change{Kind: api.ChangeAttr, Node: 2, Name: local("a"), Had: true, Old: "4", Has: true, Value: "1"}},
		{onlySpaced, api.Change{Kind: api.ChangeAttr, Node: 2, Name: plain, Had: true, Old: "2"},
			api.Change{Kind: api.ChangeAttr, Node: 2, Name: spaced, Has: true, Value: "2"}},
		{wood(), api.Change{Kind: api.ChangeSplit, Node: 6, Other: 7, Offset: 1}, api.Change{Kind: api.ChangeSplit, Node: 6, Other: 7, Offset: 1}},
		{wood(), api.Change{Kind: api.ChangeMerge, Node: 6, Other: 7, Offset: 1}, api.Change{Kind: api.ChangeMerge, Node: 6, Other: 7, Offset: 1}},
		{wood(), api.Change{Kind: api.ChangeTree, Parent: 4, Added: []int{6}, Removed: []int{7, 8}, Prev: 1, Next: 2},
			api.Change{Kind: api.ChangeTree, Parent: 4, Added: []int{6}, Removed: []int{7, 8}, Prev: 1, Next: 2}},
	} {
		if back, why := forest.Undo(c.f, c.change); why != api.OK || !sample.SameChange(back, c.want) {
			t.Errorf("%+v: %+v, %d", c.change, back, why)
		}
	}
	for what, c := range map[string]api.Change{
		"a node made":                 {Kind: api.ChangeMake, Node: 3, Made: api.Node{Kind: api.KindText, Doc: 1}},
		"a shadow root":               {Kind: api.ChangeShadow, Node: 2, Other: 3, Made: api.Node{Kind: api.KindShadow, Mode: 1}},
		"the first of attributes":     {Kind: api.ChangeAttr, Node: 2, Name: local("a"), Had: true, Old: "1"},
		"an attribute between others": {Kind: api.ChangeAttr, Node: 2, Name: plain, Had: true, Old: "2"},
	} {
		if back, why := forest.Undo(named(), c); why != api.ErrType || len(set(back)) != 0 {
			t.Errorf("%s: %+v, %d", what, back, why)
		}
	}
	last := api.Change{Kind: api.ChangeAttr, Node: 2, Name: local("c"), Had: true}
	if back, why := forest.Undo(named(), last); why != api.OK || back.Name != local("c") || !back.Has || back.Had {
		t.Errorf("the last of attributes: %+v, %d", back, why)
	}
}
