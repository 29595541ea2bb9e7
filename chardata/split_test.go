package chardata_test

import (
	"math"
	"slices"
	"testing"

	"canopy/api"
	"canopy/chardata"
	"canopy/forest"
	"canopy/sample"
)

// modelSplit says what the chapter's words say of splitting a text of a right forest, as plainly as can be.
func modelSplit(f api.Forest, h, offset int) (api.Forest, []api.Change) {
	g := sample.Copy(f)
	n, other := f.Nodes[h-1], len(f.Nodes)+1
	made := api.Node{Kind: api.KindText, Doc: n.Doc, Data: n.Data[offset:]}
	l := []api.Change{{Kind: api.ChangeMake, Node: other, Made: made}}
	g.Nodes = append(g.Nodes, made)
	if n.Parent != 0 {
		kids := f.Nodes[n.Parent-1].Kids
		at := slices.Index(kids, h) + 1
		next := append(slices.Clone(kids), 0)[at]
		g.Nodes[n.Parent-1].Kids = slices.Concat(kids[:at], []int{other}, kids[at:])
		g.Nodes[other-1].Parent = n.Parent
		l = append(l,
			api.Change{Kind: api.ChangeInsert, Node: other, Parent: n.Parent, Index: at},
			api.Change{Kind: api.ChangeTree, Parent: n.Parent, Added: []int{other}, Prev: h, Next: next},
			api.Change{Kind: api.ChangeSplit, Node: h, Other: other, Offset: offset},
		)
	}
	g.Nodes[h-1].Data = n.Data[:offset]
	return g, append(l, api.Change{Kind: api.ChangeData, Node: h, Offset: offset, Count: len(n.Data) - offset})
}

func isText(n api.Node) bool { return n.Kind == api.KindText || n.Kind == api.KindCData }

// 5.3: a text with a kid behind it, its changes one by one; what is new is a text, also where CDATA are split.
func TestSplit(t *testing.T) {
	g, h, l, why := chardata.Split(page(), 4, 1)
	want := []api.Change{
		{Kind: api.ChangeMake, Node: 19, Made: api.Node{Kind: api.KindText, Doc: 1, Data: of("de")}},
		{Kind: api.ChangeInsert, Node: 19, Parent: 2, Index: 2},
		{Kind: api.ChangeTree, Parent: 2, Added: []int{19}, Prev: 4, Next: 5},
		{Kind: api.ChangeSplit, Node: 4, Other: 19, Offset: 1},
		{Kind: api.ChangeData, Node: 4, Offset: 1, Count: 2},
	}
	if why != api.OK || h != 19 || !sample.SameChanges(l, want) {
		t.Errorf("%+v, %d, %d", l, h, why)
	}
	if !slices.Equal(g.Nodes[1].Kids, []int{3, 4, 19, 5, 6, 7, 8, 9}) || g.Nodes[18].Kind != api.KindText || g.Nodes[3].Kind != api.KindCData {
		t.Error(g.Nodes[1].Kids, g.Nodes[18])
	}
}

// 5.3: the last kid has nothing behind it.
func TestSplitLast(t *testing.T) {
	_, h, l, why := chardata.Split(page(), 9, 0)
	want := []api.Change{
		{Kind: api.ChangeMake, Node: 19, Made: api.Node{Kind: api.KindText, Doc: 1, Data: of("i")}},
		{Kind: api.ChangeInsert, Node: 19, Parent: 2, Index: 7},
		{Kind: api.ChangeTree, Parent: 2, Added: []int{19}, Prev: 9},
		{Kind: api.ChangeSplit, Node: 9, Other: 19},
		{Kind: api.ChangeData, Node: 9, Count: 1},
	}
	if why != api.OK || h != 19 || !sample.SameChanges(l, want) {
		t.Errorf("%+v, %d, %d", l, h, why)
	}
}

// 5.3: of a text without a parent nothing is inserted; the data are cut also where there is nothing to cut. The new one has its node document.
func TestSplitAlone(t *testing.T) {
	for offset, tail := range []string{"lone", "one", "ne", "e", ""} {
		g, h, l, why := chardata.Split(page(), 13, uint32(offset))
		want := []api.Change{
			{Kind: api.ChangeMake, Node: 19, Made: api.Node{Kind: api.KindText, Doc: 17, Data: of(tail)}},
			{Kind: api.ChangeData, Node: 13, Offset: offset, Count: len(tail)},
		}
		if why != api.OK || h != 19 || !sample.SameChanges(l, want) {
			t.Errorf("%+v, %d, %d", l, h, why)
		}
		if g.Nodes[18].Parent != 0 || g.Nodes[18].Doc != 17 || !slices.Equal(g.Nodes[12].Data, of("lone"[:offset])) {
			t.Error(g.Nodes[12], g.Nodes[18])
		}
	}
}

// 5.3: where there is one node fewer than MaxNodes it is done, where there are MaxNodes it is ErrMany; ErrType and ErrIndexSize go ahead.
func TestSplitMany(t *testing.T) {
	f := page()
	for len(f.Nodes) < api.MaxNodes-1 {
		f.Nodes = append(f.Nodes, api.Node{Kind: api.KindText, Doc: 1})
	}
	for _, h := range []int{4, 13} {
		g, made, _, why := chardata.Split(f, h, 1)
		if made != api.MaxNodes || why != api.OK {
			t.Fatalf("Split(%d): %d, %d", h, made, why)
		}
		if g, made, l, why := chardata.Split(g, h, 1); why != api.ErrMany || g.Nodes != nil || made != 0 || l != nil {
			t.Errorf("Split(%d) where there are MaxNodes: error %d", h, why)
		}
		if _, _, _, why := chardata.Split(g, h, 5); why != api.ErrIndexSize {
			t.Errorf("Split(%d), above the length, where there are MaxNodes: error %d", h, why)
		}
		if _, _, _, why := chardata.Split(g, 6, 1); why != api.ErrType {
			t.Error("of a comment, where there are MaxNodes: error", why)
		}
	}
}

// 5.3, 5.5, 5.6, 5.8: all texts of forests that are grown, at all offsets, are split as the model says.
func TestSplitAsModel(t *testing.T) {
	beside, alone := 0, 0
	for seed := range 120 {
		d := sample.NewDice(seed)
		f := sample.Grow(d, 4+d.Below(24))
		for i, n := range f.Nodes {
			for offset := 0; isText(n) && offset <= len(n.Data); offset++ {
				wantSplit(t, f, i+1, offset)
				if n.Parent == 0 {
					alone++
				} else if len(f.Nodes[n.Parent-1].Kids) > 1 {
					beside++
				}
			}
		}
		if t.Failed() {
			t.Fatalf("seed %d: %+v", seed, f)
		}
	}
	if beside < 100 || alone < 100 {
		t.Error("too few of a kind:", beside, alone)
	}
}

func wantSplit(t *testing.T, f api.Forest, h, offset int) {
	t.Helper()
	g, other, l, why := chardata.Split(f, h, uint32(offset))
	want, wantChanges := modelSplit(f, h, offset)
	if why != api.OK || other != len(f.Nodes)+1 || !forest.Same(g, want) || !sample.SameChanges(l, wantChanges) {
		t.Errorf("5.3: Split(%d, %d): %+v, %d", h, offset, l, why)
		return
	}
	if all, n, why := forest.All(f, l); why != api.OK || n != len(l) || !forest.Same(all, g) {
		t.Errorf("5.5: Split(%d, %d): error %d", h, offset, why)
	}
	if both := slices.Concat(g.Nodes[h-1].Data, g.Nodes[other-1].Data); !slices.Equal(both, f.Nodes[h-1].Data) {
		t.Errorf("5.6: Split(%d, %d): %v", h, offset, both)
	}
	was, _ := chardata.Whole(f, h)
	is, _ := chardata.Whole(g, h)
	if f.Nodes[h-1].Parent == 0 {
		is = slices.Concat(is, g.Nodes[other-1].Data)
	}
	if !slices.Equal(was, is) {
		t.Errorf("5.6: Whole(%d) behind Split at %d: %v, was %v", h, offset, is, was)
	}
	wantOthersAlone(t, f, g, h)
}

// wantOthersAlone sees that of nodes that there were only h has other data (5.8).
func wantOthersAlone(t *testing.T, f, g api.Forest, h int) {
	t.Helper()
	for i, n := range f.Nodes {
		if i+1 != h && !slices.Equal(n.Data, g.Nodes[i].Data) {
			t.Errorf("5.8: the data of %d are turned with those of %d", i+1, h)
		}
	}
}

// 5.3: a text of MaxData units is split like any other one.
func TestSplitLong(t *testing.T) {
	for _, offset := range []uint32{0, 1, api.MaxData - 1, api.MaxData} {
		wantSplit(t, single(api.MaxData), 2, int(offset))
	}
	for _, offset := range []uint32{api.MaxData + 1, math.MaxUint32} {
		if _, _, _, why := chardata.Split(single(api.MaxData), 2, offset); why != api.ErrIndexSize {
			t.Error(offset, why)
		}
	}
}
