package chardata_test

import (
	"math"
	"slices"
	"testing"

	"canopy/api"
	"canopy/chardata"
	"canopy/forest"
	"canopy/sample"
)

func local(s string) api.Name { return api.Name{Local: s} }

// of are the units of an ASCII text.
func of(s string) api.Units {
	var u api.Units
	for _, b := range []byte(s) {
		u = append(u, uint16(b))
	}
	return u
}

// page has every kind of node: texts beside one another, beside others and alone, and a shadow tree beside content.
func page() api.Forest {
	return api.Forest{Nodes: []api.Node{
		{Kind: api.KindDocument, Kids: []int{2}, Doc: 1},
		{Kind: api.KindElement, Name: local("p"), Parent: 1, Kids: []int{3, 4, 5, 6, 7, 8, 9}, Doc: 1},
		{Kind: api.KindText, Data: of("ab"), Parent: 2, Doc: 1},
		{Kind: api.KindCData, Data: of("cde"), Parent: 2, Doc: 1},
		{Kind: api.KindText, Parent: 2, Doc: 1},
		{Kind: api.KindComment, Data: of("xy"), Parent: 2, Doc: 1},
		{Kind: api.KindText, Data: of("fg"), Parent: 2, Doc: 1},
		{Kind: api.KindElement, Name: local("b"), Parent: 2, Kids: []int{10}, Doc: 1, Shadow: 11},
		{Kind: api.KindText, Data: of("i"), Parent: 2, Doc: 1},
		{Kind: api.KindText, Data: of("h"), Parent: 8, Doc: 1},
		{Kind: api.KindShadow, Kids: []int{12}, Doc: 1, Host: 8, Mode: api.ShadowClosed},
		{Kind: api.KindText, Data: of("hidden"), Parent: 11, Doc: 1},
		{Kind: api.KindText, Data: of("lone"), Doc: 17},
		{Kind: api.KindFragment, Kids: []int{15, 16}, Doc: 1},
		{Kind: api.KindText, Data: api.Units{0xd83d, 0xde00}, Parent: 14, Doc: 1},
		{Kind: api.KindInstruction, Name: local("go"), Data: of("on"), Parent: 14, Doc: 1},
		{Kind: api.KindDocument, Kids: []int{18}, Doc: 17, HTML: true},
		{Kind: api.KindDoctype, Name: local("html"), Parent: 17, Doc: 17},
	}}
}

// single is a document and a text of n units that hangs nowhere.
func single(n int) api.Forest {
	f := forest.New(false)
	f.Nodes = append(f.Nodes, api.Node{Kind: api.KindText, Data: slices.Repeat(of("a"), n), Doc: 1})
	return f
}

// told are the answers of a call: all but the error must be zero beside one.
type told struct {
	zero bool
	why  api.Errno
}

// calls are all calls, with an offset and a count where they have one.
func calls() map[string]func(f api.Forest, h int, offset, count uint32) told {
	changes := func(g api.Forest, l []api.Change, why api.Errno) told { return told{g.Nodes == nil && l == nil, why} }
	return map[string]func(f api.Forest, h int, offset, count uint32) told{
		"Length": func(f api.Forest, h int, _, _ uint32) told {
			n, why := chardata.Length(f, h)
			return told{n == 0, why}
		},
		"Substring": func(f api.Forest, h int, offset, count uint32) told {
			u, why := chardata.Substring(f, h, offset, count)
			return told{u == nil, why}
		},
		"Whole": func(f api.Forest, h int, _, _ uint32) told {
			u, why := chardata.Whole(f, h)
			return told{u == nil, why}
		},
		"Content": func(f api.Forest, h int, _, _ uint32) told {
			u, is, why := chardata.Content(f, h)
			return told{u == nil && !is, why}
		},
		"Replace": func(f api.Forest, h int, offset, count uint32) told {
			return changes(chardata.Replace(f, h, offset, count, of("new")))
		},
		"Insert": func(f api.Forest, h int, offset, _ uint32) told {
			return changes(chardata.Insert(f, h, offset, of("new")))
		},
		"Delete": func(f api.Forest, h int, offset, count uint32) told {
			return changes(chardata.Delete(f, h, offset, count))
		},
		"Append": func(f api.Forest, h int, _, _ uint32) told { return changes(chardata.Append(f, h, of("new"))) },
		"Set":    func(f api.Forest, h int, _, _ uint32) told { return changes(chardata.Set(f, h, of("new"))) },
		"Split": func(f api.Forest, h int, offset, _ uint32) told {
			g, made, l, why := chardata.Split(f, h, offset)
			return told{g.Nodes == nil && made == 0 && l == nil, why}
		},
	}
}

// Words, 5.1: ErrForest ahead of all, then ErrRange, then ErrType, each alone.
func TestErrorsAhead(t *testing.T) {
	refused := told{true, api.ErrForest}
	bad := page()
	bad.Nodes[4].Parent = 0
	many := single(api.MaxData)
	many.Nodes = append(many.Nodes, make([]api.Node, api.MaxNodes)...)
	long := single(api.MaxData + 1)
	for name, call := range calls() {
		for _, f := range []api.Forest{bad, many, long} {
			for _, h := range []int{1, 2, 0, -1, math.MaxInt} {
				if x := call(f, h, math.MaxUint32, 0); x != refused {
					t.Errorf("%s(%d) of a forest that is not right: %v", name, h, x)
				}
			}
		}
		for _, h := range []int{0, -1, 19, math.MaxInt, math.MinInt} {
			if x := call(page(), h, math.MaxUint32, 0); x != (told{true, api.ErrRange}) {
				t.Errorf("%s(%d): %v", name, h, x)
			}
			if x := call(api.Forest{}, h, 0, 0); x != (told{true, api.ErrRange}) {
				t.Errorf("%s(%d) of no node: %v", name, h, x)
			}
		}
	}
}

// kindsOf are the kinds of node of which a call answers.
func kindsOf(call string) []api.NodeKind {
	texts := []api.NodeKind{api.KindText, api.KindCData}
	switch call {
	case "Whole", "Split":
		return texts
	case "Content":
		return []api.NodeKind{1, 3, 4, 7, 8, 9, 10, 11, 12}
	}
	return append(texts, api.KindComment, api.KindInstruction)
}

// Words, 5.1: what has no data, or is no text, is an ErrType, ahead of an offset above the length.
func TestKinds(t *testing.T) {
	for name, call := range calls() {
		for i, n := range page().Nodes {
			fits := slices.Contains(kindsOf(name), n.Kind)
			if x := call(page(), i+1, 0, 0); fits && x.why != api.OK {
				t.Errorf("%s(%d): error %d", name, i+1, x.why)
			}
			if x := call(page(), i+1, math.MaxUint32, 0); !fits && x != (told{true, api.ErrType}) {
				t.Errorf("%s(%d): %v", name, i+1, x)
			}
		}
	}
}

// 5.1 to 5.3: an offset at the length is the last one; above it is an ErrIndexSize, also where count and offset come round to a number that fits.
func TestOffsets(t *testing.T) {
	for name, call := range calls() {
		if !slices.Contains([]string{"Substring", "Replace", "Insert", "Delete", "Split"}, name) {
			continue
		}
		for _, h := range []int{3, 4, 5, 13} {
			length := uint32(len(page().Nodes[h-1].Data))
			for _, count := range []uint32{0, 1, math.MaxUint32} {
				if x := call(page(), h, length, count); x.why != api.OK {
					t.Errorf("%s(%d, %d, %d): error %d", name, h, length, count, x.why)
				}
				for _, offset := range []uint32{length + 1, 1 << 31, math.MaxUint32} {
					if x := call(page(), h, offset, count); x != (told{true, api.ErrIndexSize}) {
						t.Errorf("%s(%d, %d, %d): %v", name, h, offset, count, x)
					}
				}
			}
		}
	}
}

// 5.1: how many units, kind by kind.
func TestLength(t *testing.T) {
	for h, want := range map[int]int{3: 2, 4: 3, 5: 0, 6: 2, 12: 6, 13: 4, 15: 2, 16: 2} {
		if n, why := chardata.Length(page(), h); n != want || why != api.OK {
			t.Errorf("Length(%d) = %d, %d", h, n, why)
		}
	}
	if n, why := chardata.Length(single(api.MaxData), 2); n != api.MaxData || why != api.OK {
		t.Error(n, why)
	}
}

// 5.1: some of the units, as many as there are.
func TestSubstring(t *testing.T) {
	for _, c := range []struct {
		h             int
		offset, count uint32
		want          api.Units
	}{
		{13, 0, 4, of("lone")}, {13, 0, 5, of("lone")}, {13, 1, 2, of("on")}, {13, 1, math.MaxUint32, of("one")},
		{13, 4, 0, nil}, {13, 4, 9, nil}, {13, 2, 0, nil}, {13, 3, 1, of("e")},
		{4, 1, 1, of("d")}, {6, 1, 1, of("y")}, {16, 0, 1, of("o")}, {5, 0, 1, nil},
		{15, 1, 1, api.Units{0xde00}},
	} {
		if u, why := chardata.Substring(page(), c.h, c.offset, c.count); !slices.Equal(u, c.want) || why != api.OK {
			t.Errorf("Substring(%d, %d, %d) = %v, %d", c.h, c.offset, c.count, u, why)
		}
	}
}

// 5.1: texts right beside one another, CDATA too; a comment, an element, a parent's end are where it ends.
func TestWhole(t *testing.T) {
	for h, want := range map[int]string{
		3: "abcde", 4: "abcde", 5: "abcde", 7: "fg", 9: "i", 10: "h", 12: "hidden", 13: "lone",
	} {
		if u, why := chardata.Whole(page(), h); !slices.Equal(u, of(want)) || why != api.OK {
			t.Errorf("Whole(%d) = %v, %d", h, u, why)
		}
	}
	f := forest.New(false)
	f.Nodes = append(f.Nodes, api.Node{Kind: api.KindFragment, Kids: []int{5, 4, 3}, Doc: 1})
	var want api.Units
	for h := 3; h < 6; h++ {
		f.Nodes = append(f.Nodes, api.Node{Kind: api.KindText, Data: slices.Repeat(api.Units{uint16(h)}, api.MaxData), Parent: 2, Doc: 1})
		want = slices.Concat(f.Nodes[h-1].Data, want)
	}
	for h := 3; h < 6; h++ {
		if u, why := chardata.Whole(f, h); !slices.Equal(u, want) || why != api.OK {
			t.Errorf("Whole, in the kids' order, of more than MaxData units: %d, %d", len(u), why)
		}
	}
}

// 5.1: of documents and doctypes none; of what has data that; else the texts within, in tree order, without shadow trees and comments.
func TestContent(t *testing.T) {
	for h, want := range map[int]string{
		2: "abcdefghi", 3: "ab", 4: "cde", 5: "", 6: "xy", 8: "h", 11: "hidden", 12: "hidden", 13: "lone", 16: "on",
	} {
		if u, is, why := chardata.Content(page(), h); !slices.Equal(u, of(want)) || !is || why != api.OK {
			t.Errorf("Content(%d) = %v, %t, %d", h, u, is, why)
		}
	}
	if u, is, why := chardata.Content(page(), 14); !slices.Equal(u, api.Units{0xd83d, 0xde00}) || !is || why != api.OK {
		t.Error("of a fragment:", u, is, why)
	}
	for _, h := range []int{1, 17, 18} {
		if u, is, why := chardata.Content(page(), h); u != nil || is || why != api.OK {
			t.Errorf("Content(%d) = %v, %t, %d", h, u, is, why)
		}
	}
	f := forest.New(false)
	f.Nodes = append(f.Nodes, api.Node{Kind: api.KindElement, Name: local("e"), Doc: 1})
	if u, is, why := chardata.Content(f, 2); len(u) != 0 || !is || why != api.OK {
		t.Error("of an empty element:", u, is, why)
	}
}

// wantData sees that a call has made one change, of a node's data, and the data as they must be.
func wantData(t *testing.T, what string, f api.Forest, want api.Change, data api.Units) func(api.Forest, []api.Change, api.Errno) {
	t.Helper()
	return func(g api.Forest, l []api.Change, why api.Errno) {
		t.Helper()
		want.Kind = api.ChangeData
		turned := sample.Copy(f)
		turned.Nodes[want.Node-1].Data = data
		if why != api.OK || !sample.SameChanges(l, []api.Change{want}) || !forest.Same(g, turned) {
			t.Errorf("%s: %+v, error %d; want %+v, %v", what, l, why, want, data)
		}
	}
}

// Words, 5.2: replacing, with a count that is at most what there is; a change also where nothing changes.
func TestReplace(t *testing.T) {
	for _, c := range []struct {
		h             int
		offset, count uint32
		data, is      string
		told          int
	}{
		{13, 1, 2, "xyz", "lxyze", 2}, {13, 1, 9, "x", "lx", 3}, {13, 1, math.MaxUint32, "", "l", 3},
		{13, 4, 1, "r", "loner", 0}, {13, 0, 4, "", "", 4}, {13, 0, 0, "a", "alone", 0},
		{13, 2, 0, "", "lone", 0}, {13, 0, 4, "lone", "lone", 4}, {13, 4, math.MaxUint32, "", "lone", 0},
		{4, 0, 1, "C", "Cde", 1}, {6, 1, 1, "z", "xz", 1}, {16, 0, 2, "off", "off", 2}, {5, 0, 5, "t", "t", 0},
	} {
		want := api.Change{Node: c.h, Offset: int(c.offset), Count: c.told, Data: of(c.data)}
		wantData(t, "Replace", page(), want, of(c.is))(chardata.Replace(page(), c.h, c.offset, c.count, of(c.data)))
	}
}

// 5.2: the others are replacing, too.
func TestOthers(t *testing.T) {
	f := page()
	wantData(t, "Insert", f, api.Change{Node: 13, Offset: 1, Data: of("x")}, of("lxone"))(chardata.Insert(f, 13, 1, of("x")))
	wantData(t, "Insert at the end", f, api.Change{Node: 13, Offset: 4, Data: of("x")}, of("lonex"))(chardata.Insert(f, 13, 4, of("x")))
	wantData(t, "Insert of nothing", f, api.Change{Node: 13, Offset: 2}, of("lone"))(chardata.Insert(f, 13, 2, nil))
	wantData(t, "Delete", f, api.Change{Node: 13, Offset: 1, Count: 2}, of("le"))(chardata.Delete(f, 13, 1, 2))
	wantData(t, "Delete of too many", f, api.Change{Node: 13, Offset: 3, Count: 1}, of("lon"))(chardata.Delete(f, 13, 3, math.MaxUint32))
	wantData(t, "Delete of none", f, api.Change{Node: 13, Offset: 4}, of("lone"))(chardata.Delete(f, 13, 4, 1))
	wantData(t, "Append", f, api.Change{Node: 13, Offset: 4, Data: of("ly")}, of("lonely"))(chardata.Append(f, 13, of("ly")))
	wantData(t, "Append of nothing", f, api.Change{Node: 13, Offset: 4}, of("lone"))(chardata.Append(f, 13, api.Units{}))
	wantData(t, "Append to nothing", f, api.Change{Node: 5, Data: of("a")}, of("a"))(chardata.Append(f, 5, of("a")))
	wantData(t, "Set", f, api.Change{Node: 13, Count: 4, Data: of("a")}, of("a"))(chardata.Set(f, 13, of("a")))
	wantData(t, "Set to nothing", f, api.Change{Node: 13, Count: 4}, nil)(chardata.Set(f, 13, nil))
	wantData(t, "Set of nothing", f, api.Change{Node: 5, Data: of("a")}, of("a"))(chardata.Set(f, 5, of("a")))
	wantData(t, "Set to the same", f, api.Change{Node: 6, Count: 2, Data: of("xy")}, of("xy"))(chardata.Set(f, 6, of("xy")))
}

// Words, 5.2: MaxData units may come of it, and not one more; ErrIndexSize goes ahead.
func TestLong(t *testing.T) {
	const most = api.MaxData
	long := func(n int) api.Units { return slices.Repeat(of("b"), n) }
	for what, c := range map[string]struct {
		call func(n int) (api.Forest, []api.Change, api.Errno)
		fits int
	}{
		"Replace": {func(n int) (api.Forest, []api.Change, api.Errno) {
			return chardata.Replace(single(10), 2, 4, 3, long(n))
		}, most - 7},
		"Replace of more than there is": {func(n int) (api.Forest, []api.Change, api.Errno) {
			return chardata.Replace(single(10), 2, 4, math.MaxUint32, long(n))
		}, most - 4},
		"Insert": {func(n int) (api.Forest, []api.Change, api.Errno) { return chardata.Insert(single(10), 2, 4, long(n)) }, most - 10},
		"Append": {func(n int) (api.Forest, []api.Change, api.Errno) { return chardata.Append(single(10), 2, long(n)) }, most - 10},
		"Append to a full one": {func(n int) (api.Forest, []api.Change, api.Errno) {
			return chardata.Append(single(most), 2, long(n))
		}, 0},
		"Set": {func(n int) (api.Forest, []api.Change, api.Errno) { return chardata.Set(single(10), 2, long(n)) }, most},
	} {
		if g, l, why := c.call(c.fits); why != api.OK || len(l) != 1 || len(g.Nodes[1].Data) != most {
			t.Errorf("%s: error %d", what, why)
		}
		for _, n := range []int{1, most, 1 << 20} {
			if g, l, why := c.call(c.fits + n); why != api.ErrLong || g.Nodes != nil || l != nil {
				t.Errorf("%s, of %d too many: error %d", what, n, why)
			}
		}
	}
	if _, _, why := chardata.Insert(single(10), 2, 11, long(most)); why != api.ErrIndexSize {
		t.Error("ErrIndexSize goes ahead of ErrLong:", why)
	}
	if _, _, why := chardata.Append(single(10), 1, long(most+1)); why != api.ErrType {
		t.Error("ErrType goes ahead of ErrLong:", why)
	}
}

// Chapter 5, its example.
func TestExample(t *testing.T) {
	f := page()
	f.Nodes[8].Data = of("abc")
	wantData(t, "Replace(1, 9)", f, api.Change{Node: 9, Offset: 1, Count: 2, Data: of("x")}, of("ax"))(chardata.Replace(f, 9, 1, 9, of("x")))
	if _, _, why := chardata.Insert(f, 9, 4, of("x")); why != api.ErrIndexSize {
		t.Error("Insert(4):", why)
	}
	if u, why := chardata.Substring(f, 9, 1, 4294967295); !slices.Equal(u, of("bc")) || why != api.OK {
		t.Error("Substring(1, 4294967295):", u, why)
	}
	g, h, _, why := chardata.Split(f, 9, 1)
	if why != api.OK || h != 19 || !slices.Equal(g.Nodes[8].Data, of("a")) || !slices.Equal(g.Nodes[18].Data, of("bc")) {
		t.Error("Split(1):", h, why)
	}
	if kids := g.Nodes[1].Kids; !slices.Equal(kids, []int{3, 4, 5, 6, 7, 8, 9, 19}) || g.Nodes[18].Parent != 2 {
		t.Error("Split(1):", kids)
	}
}
