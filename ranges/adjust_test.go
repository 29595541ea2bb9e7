package ranges_test

import (
	"slices"
	"testing"

	"canopy/api"
	"canopy/chardata"
	"canopy/forest"
	"canopy/ranges"
	"canopy/sample"
)

// splitChanges are those by which chardata splits a text.
func splitChanges(t *testing.T, f api.Forest, h, offset int) []api.Change {
	t.Helper()
	_, _, l, why := chardata.Split(f, h, uint32(offset))
	if why != api.OK {
		t.Fatal(why)
	}
	return l
}

// wantFold has a range become another one by changes.
func wantFold(t *testing.T, what string, f api.Forest, r api.Range, changes []api.Change, want api.Range) {
	t.Helper()
	if got, why := ranges.Fold(f, []api.Range{r}, changes); why != api.OK || len(got) != 1 || got[0] != want {
		t.Errorf("%s: %v, error %d; want %v", what, got, why, want)
	}
}

// step is what an end becomes.
type step struct{ is, becomes api.Bound }

// wantSteps has ends become others by a change, both of a range and in Adjust and Fold alike, as the start and as the end of ranges.
func wantSteps(t *testing.T, f api.Forest, c api.Change, steps ...step) {
	t.Helper()
	for _, x := range steps {
		for _, y := range steps {
			r, want := from(x.is, y.is), from(x.becomes, y.becomes)
			if !valid(t, f, r) {
				continue
			}
			if got, why := ranges.Adjust(f, r, c); got != want || why != api.OK {
				t.Errorf("Adjust of %v by %+v: %v, error %d; want %v", r, c, got, why, want)
			}
			wantFold(t, "Fold", f, r, []api.Change{c}, want)
		}
	}
}

// stay are ends that stay as they are.
func stay(some ...api.Bound) []step {
	var l []step
	for _, b := range some {
		l = append(l, step{b, b})
	}
	return l
}

// Words: ChangeInsert moves ends in Parent above Index, and no other one.
func TestAdjustInsert(t *testing.T) {
	f := family(t)
	c := api.Change{Kind: api.ChangeInsert, Node: lone, Parent: a, Index: 2}
	wantSteps(t, f, c, append(stay(
		at(doc, 0), at(doc, 3), at(a, 0), at(a, 1), at(a, 2), at(b, 0), at(b, 2), at(z, 1), at(xy, 2), at(uv, 2), at(k, 1),
	), step{at(a, 3), at(a, 4)}, step{at(a, 5), at(a, 6)})...)
	wantSteps(t, f, c, stay(at(lone, 0), at(lone, 2))...)
	c.Index = 0
	wantSteps(t, f, c, append(stay(at(a, 0), at(xy, 1), at(doc, 3)), step{at(a, 1), at(a, 2)}, step{at(a, 5), at(a, 6)})...)
	c.Index = 5
	wantSteps(t, f, c, stay(at(a, 0), at(a, 4), at(a, 5))...)
}

// Words: ChangeRemove has ends within Node where it was, and moves ends in Parent above Index.
func TestAdjustRemove(t *testing.T) {
	f := family(t)
	c := api.Change{Kind: api.ChangeRemove, Node: b, Parent: a, Index: 1}
	wantSteps(t, f, c, append(stay(at(doc, 0), at(doc, 3), at(a, 0), at(a, 1), at(xy, 2), at(uv, 0), at(uv, 2), at(k, 1)),
		step{at(a, 2), at(a, 1)}, step{at(a, 3), at(a, 2)}, step{at(a, 5), at(a, 4)},
		step{at(b, 0), at(a, 1)}, step{at(b, 2), at(a, 1)}, step{at(z, 0), at(a, 1)}, step{at(w, 1), at(a, 1)},
	)...)
	c = api.Change{Kind: api.ChangeRemove, Node: a, Parent: doc, Index: 2}
	wantSteps(t, f, c, append(stay(at(doc, 0), at(doc, 1), at(doc, 2), at(remark, 1)),
		step{at(doc, 3), at(doc, 2)}, step{at(a, 5), at(doc, 2)}, step{at(w, 0), at(doc, 2)},
	)...)
	// what lies in the shadow tree of a node that goes is not within it
	c = api.Change{Kind: api.ChangeRemove, Node: e, Parent: a, Index: 3}
	wantSteps(t, f, c, stay(at(shadow, 0), at(shadow, 1), at(inShadow, 1))...)
	wantSteps(t, f, c, append(stay(at(a, 3), at(k, 0)), step{at(e, 0), at(a, 3)}, step{at(a, 4), at(a, 3)})...)
}

// Words: ChangeData has ends among the units that go at its Offset, and moves those behind them.
func TestAdjustData(t *testing.T) {
	f := sample.Tree(`a(#"uvwxyz" #"uvwxyz")`)
	for _, x := range []struct {
		offset, count, units int
		want                 [7]int // by what the end's offset is
	}{
		{2, 2, 0, [7]int{0, 1, 2, 2, 2, 3, 4}},
		{2, 2, 1, [7]int{0, 1, 2, 2, 2, 4, 5}},
		{2, 2, 2, [7]int{0, 1, 2, 2, 2, 5, 6}},
		{2, 2, 5, [7]int{0, 1, 2, 2, 2, 8, 9}},
		{2, 0, 3, [7]int{0, 1, 2, 6, 7, 8, 9}},
		{2, 0, 0, [7]int{0, 1, 2, 3, 4, 5, 6}},
		{0, 6, 2, [7]int{0, 0, 0, 0, 0, 0, 0}},
		{0, 6, 9, [7]int{0, 0, 0, 0, 0, 0, 0}},
		{0, 1, 0, [7]int{0, 0, 1, 2, 3, 4, 5}},
		{0, 0, 1, [7]int{0, 2, 3, 4, 5, 6, 7}},
		{6, 0, 4, [7]int{0, 1, 2, 3, 4, 5, 6}},
		{5, 1, 0, [7]int{0, 1, 2, 3, 4, 5, 5}},
	} {
		c := api.Change{Kind: api.ChangeData, Node: 3, Offset: x.offset, Count: x.count, Data: make(api.Units, x.units)}
		steps := stay(at(1, 0), at(2, 0), at(2, 1), at(2, 2), at(4, 0), at(4, 3), at(4, 6))
		for i, n := range x.want {
			steps = append(steps, step{at(3, i), at(3, n)})
		}
		wantSteps(t, f, c, steps...)
	}
}

// twins is <a> with "uvwxyz" 3, "wxyz" 4, "uv" 5, an element 6 with "wxyz" 7; a comment 8, an instruction 9, a CDATA 10, each "z"; and "wxyz" 11, which hangs nowhere.
func twins() api.Forest {
	f := sample.Tree(`a(#"uvwxyz" #"wxyz" #"uv" b(#"wxyz") -"z" ?"z" ="z")`)
	f.Nodes = append(f.Nodes, api.Node{Kind: api.KindText, Doc: 1, Data: api.Units{'w', 'x', 'y', 'z'}})
	return f
}

// ends are points of twins in all its nodes.
func ends() []api.Bound {
	l := []api.Bound{at(1, 0), at(1, 1), at(6, 0), at(6, 1)}
	for i := range 8 {
		l = append(l, at(2, i))
	}
	for h, n := range map[int]int{3: 6, 4: 4, 5: 2, 7: 4, 8: 1, 9: 1, 10: 1} {
		for i := range n + 1 {
			l = append(l, at(h, i))
		}
	}
	return l
}

// but are the ends of twins, each of which stays, if it is not among some steps.
func but(steps ...step) []step {
	for _, b := range ends() {
		if !slices.ContainsFunc(steps, func(s step) bool { return s.is == b }) {
			steps = append(steps, step{b, b})
		}
	}
	return steps
}

func split(node, other, offset int) api.Change {
	return api.Change{Kind: api.ChangeSplit, Node: node, Other: other, Offset: offset}
}

func merge(node, other, offset int) api.Change {
	return api.Change{Kind: api.ChangeMerge, Node: node, Other: other, Offset: offset}
}

// Words: ChangeSplit, if its conditions hold, has ends in Node above Offset in Other, and the one between them behind Other.
func TestAdjustSplit(t *testing.T) {
	f := twins()
	between := step{at(2, 1), at(2, 2)}
	wantSteps(t, f, split(3, 4, 2), but(between, step{at(3, 3), at(4, 1)}, step{at(3, 4), at(4, 2)}, step{at(3, 5), at(4, 3)}, step{at(3, 6), at(4, 4)})...)
	// a comment and an instruction have data, too, and so have two of another kind
	wantSteps(t, f, split(8, 9, 0), but(step{at(8, 1), at(9, 1)}, step{at(2, 5), at(2, 6)})...)
	wantSteps(t, f, split(9, 10, 0), but(step{at(9, 1), at(10, 1)}, step{at(2, 6), at(2, 7)})...)
	// at the end of Node, if Other is empty
	f.Nodes[4].Data = nil
	f.Nodes[3].Data = nil
	if got, why := ranges.Adjust(f, from(at(3, 6), at(2, 1)), split(3, 4, 6)); got != from(at(3, 6), at(2, 2)) || why != api.OK {
		t.Errorf("%v, error %d", got, why)
	}
}

// Words: each condition of ChangeSplit that fails leaves all ends.
func TestAdjustSplitNot(t *testing.T) {
	f := twins()
	for what, c := range map[string]api.Change{
		"Node has no parent":                        split(11, 4, 0),
		"Node is a root, Other none":                split(1, 0, 0),
		"Other has no parent":                       split(3, 11, 2),
		"Other stands not right behind":             split(3, 5, 2),
		"Other stands ahead":                        split(4, 3, 0),
		"Other has another parent":                  split(3, 7, 2),
		"Other is Node":                             split(3, 3, 0),
		"Other is the last one's next":              split(10, 3, 0),
		"Other has no data":                         split(5, 6, 0),
		"Other has no data, nor Offset":             split(5, 6, 2),
		"Node has no data":                          split(6, 8, 0),
		"Offset below 0":                            split(3, 4, -1),
		"Offset above the length":                   split(3, 4, 7),
		"Offset far above the length":               split(3, 4, 1<<62),
		"Other's data are more":                     split(3, 4, 3),
		"Other's data are fewer":                    split(3, 4, 1),
		"Other's data are others":                   split(4, 5, 2),
		"Other's data are Node's, with more behind": split(8, 9, 1),
		"Node is none":                              split(0, 4, 2),
		"Other is none":                             split(3, 0, 2),
		"both are none":                             split(0, 0, 0),
	} {
		wantNothing(t, what, f, c)
	}
}

// wantNothing has all pairs of ends stay as they are by a change.
func wantNothing(t *testing.T, what string, f api.Forest, c api.Change) {
	t.Helper()
	if _, why := forest.Apply(f, c); why != api.OK {
		t.Fatalf("%s: error %d", what, why)
	}
	var l []api.Range
	for _, b := range ends() {
		l = append(l, from(b, b))
		if r := from(at(1, 0), b); valid(t, f, r) {
			l = append(l, r)
		}
	}
	l = append(l, from(at(11, 0), at(11, 4)))
	if got, why := ranges.Fold(f, l, []api.Change{c}); why != api.OK || !slices.Equal(got, l) {
		t.Errorf("%s: %v, error %d", what, got, why)
	}
}

// Words: ChangeMerge, if its conditions hold, has ends in Other in Node, and the one ahead of Other as well.
func TestAdjustMerge(t *testing.T) {
	f := twins()
	wantSteps(t, f, merge(3, 4, 2), but(
		step{at(2, 1), at(3, 2)}, step{at(4, 0), at(3, 2)}, step{at(4, 1), at(3, 3)}, step{at(4, 2), at(3, 4)}, step{at(4, 3), at(3, 5)}, step{at(4, 4), at(3, 6)},
	)...)
	// Other need not stand right behind, and more may stand behind its data
	wantSteps(t, f, merge(3, 5, 0), but(step{at(2, 2), at(3, 0)}, step{at(5, 0), at(3, 0)}, step{at(5, 1), at(3, 1)}, step{at(5, 2), at(3, 2)})...)
	// data of any kind, across a node that has none
	wantSteps(t, f, merge(4, 9, 3), but(step{at(2, 5), at(4, 3)}, step{at(9, 0), at(4, 3)}, step{at(9, 1), at(4, 4)})...)
	// nothing stands everywhere, at the end of Node, too
	f.Nodes[4].Data = nil
	for _, offset := range []int{0, 4, 6} {
		c := merge(3, 5, offset)
		if got, why := ranges.Adjust(f, from(at(2, 2), at(5, 0)), c); got != from(at(3, offset), at(3, offset)) || why != api.OK {
			t.Errorf("%v, error %d", got, why)
		}
	}
}

// Words: each condition of ChangeMerge that fails leaves all ends.
func TestAdjustMergeNot(t *testing.T) {
	f := twins()
	for what, c := range map[string]api.Change{
		"Node has no parent":          merge(11, 4, 0),
		"Other has no parent":         merge(3, 11, 2),
		"neither has a parent":        merge(1, 11, 0),
		"Other has another parent":    merge(3, 7, 2),
		"Node has another parent":     merge(7, 4, 0),
		"Node stands behind Other":    merge(4, 3, 0),
		"Node behind Other, by data":  merge(10, 9, 0),
		"Other is Node":               merge(3, 3, 0),
		"Other has no data":           merge(3, 6, 0),
		"Node has no data":            merge(6, 8, 0),
		"Offset below 0":              merge(3, 4, -1),
		"Offset above the length":     merge(3, 4, 7),
		"Offset far above the length": merge(3, 4, 1<<62),
		"the data stand elsewhere":    merge(3, 4, 1),
		"Node has fewer units":        merge(3, 4, 3),
		"Node has none of them":       merge(3, 4, 6),
		"Node is none":                merge(0, 4, 2),
		"Other is none":               merge(3, 0, 2),
		"both are none":               merge(0, 0, 0),
	} {
		wantNothing(t, what, f, c)
	}
}

// Words: an element has no data, not even none, so that it takes no part in splits and merges.
func TestAdjustNoData(t *testing.T) {
	for _, x := range []struct {
		tree string
		c    api.Change
	}{
		{`a(b #)`, split(3, 4, 0)}, {`a(# b)`, split(3, 4, 0)}, {`a(b c)`, split(3, 4, 0)},
		{`a(b #)`, merge(3, 4, 0)}, {`a(# b)`, merge(3, 4, 0)}, {`a(b c)`, merge(3, 4, 0)},
		{`!-`, split(2, 3, 0)}, {`!-`, merge(2, 3, 0)}, {`-a`, split(2, 3, 0)}, {`-a`, merge(2, 3, 0)},
	} {
		f := sample.Tree(x.tree)
		parent := f.Nodes[x.c.Node-1].Parent
		wantSteps(t, f, x.c, stay(at(parent, 0), at(parent, 1), at(parent, 2), at(x.c.Node, 0), at(x.c.Other, 0))...)
	}
	f := sample.Tree(`--`)
	wantSteps(t, f, split(2, 3, 0), append(stay(at(1, 0), at(1, 2), at(2, 0), at(3, 0)), step{at(1, 1), at(1, 2)})...)
	wantSteps(t, f, merge(2, 3, 0), append(stay(at(1, 0), at(1, 2), at(2, 0)), step{at(1, 1), at(2, 0)}, step{at(3, 0), at(2, 0)})...)
}

// Words: by other changes ends stay as they are.
func TestAdjustOthers(t *testing.T) {
	f := twins()
	f.Nodes = append(f.Nodes, api.Node{Kind: api.KindDocument, Doc: 12})
	for what, c := range map[string]api.Change{
		"Make":   {Kind: api.ChangeMake, Node: 13, Made: api.Node{Kind: api.KindText, Doc: 1}},
		"Adopt":  {Kind: api.ChangeAdopt, Node: 11, Doc: 12},
		"Attr":   {Kind: api.ChangeAttr, Node: 2, Name: api.Name{Local: "x"}, Has: true},
		"Shadow": {Kind: api.ChangeShadow, Node: 6, Other: 13, Made: api.Node{Kind: api.KindShadow, Mode: api.ShadowOpen}},
		"Tree":   {Kind: api.ChangeTree, Parent: 2, Added: []int{3}, Removed: []int{4, 3}, Prev: 3, Next: 5},
	} {
		wantNothing(t, what, f, c)
	}
}

// P16.6: Fold goes on in the forest that the change ahead has made: of a node, a shadow root, links and data that are new.
func TestFoldOn(t *testing.T) {
	f := sample.Tree(`a(#"uvw" b)`)
	text := api.Node{Kind: api.KindText, Doc: 1, Data: api.Units{'v', 'w'}}
	changes := []api.Change{
		{Kind: api.ChangeMake, Node: 5, Made: text},
		{Kind: api.ChangeShadow, Node: 4, Other: 6, Made: api.Node{Kind: api.KindShadow, Mode: api.ShadowOpen}},
		{Kind: api.ChangeInsert, Node: 5, Parent: 2, Index: 1},
		split(3, 5, 1),
		{Kind: api.ChangeData, Node: 3, Offset: 1, Count: 2},
		{Kind: api.ChangeRemove, Node: 5, Parent: 2, Index: 1},
		{Kind: api.ChangeInsert, Node: 5, Parent: 4},
		{Kind: api.ChangeRemove, Node: 4, Parent: 2, Index: 1},
	}
	r := from(at(3, 2), at(2, 2))
	for i, want := range []api.Range{r, r, r, from(at(3, 2), at(2, 3)), from(at(5, 1), at(2, 3)), from(at(5, 1), at(2, 3)), from(at(2, 1), at(2, 2)), from(at(2, 1), at(2, 2)), from(at(2, 1), at(2, 1))} {
		wantFold(t, "some changes", f, r, changes[:i], want)
	}
	// what an earlier insertion has put within a node goes with it
	changes = []api.Change{
		{Kind: api.ChangeRemove, Node: 3, Parent: 2},
		{Kind: api.ChangeInsert, Node: 3, Parent: 4},
		{Kind: api.ChangeRemove, Node: 4, Parent: 2},
		{Kind: api.ChangeInsert, Node: 4, Parent: 2},
		{Kind: api.ChangeData, Node: 3, Data: api.Units{'t'}},
		merge(3, 4, 0),
	}
	wantFold(t, "there and back", f, from(at(4, 0), at(4, 0)), changes, from(at(2, 0), at(2, 0)))
	wantFold(t, "ahead of what goes", f, from(at(2, 0), at(3, 3)), changes[:1], from(at(2, 0), at(2, 0)))
}

// P16.6: data that changes have made are those by which splits and merges go.
func TestFoldData(t *testing.T) {
	f := sample.Tree(`a(#"uv" #"xy")`)
	more := api.Change{Kind: api.ChangeData, Node: 3, Offset: 2, Data: api.Units{'x', 'y'}}
	r := from(at(4, 1), at(2, 2))
	wantFold(t, "a merge whose data are there", f, r, []api.Change{more, merge(3, 4, 2)}, from(at(3, 3), at(2, 2)))
	wantFold(t, "a merge whose data are not there yet", f, r, []api.Change{merge(3, 4, 2), more}, r)
	other := api.Change{Kind: api.ChangeData, Node: 4, Count: 1, Data: api.Units{'z'}}
	wantFold(t, "a merge whose data are no more the same", f, r, []api.Change{more, other, merge(3, 4, 2)}, from(at(4, 0), at(2, 2)))
	r = from(at(3, 1), at(3, 2))
	same := api.Change{Kind: api.ChangeData, Node: 4, Count: 2, Data: api.Units{'v'}}
	wantFold(t, "a split whose data are there", f, r, []api.Change{same, split(3, 4, 1)}, from(at(3, 1), at(4, 1)))
	wantFold(t, "a split whose data are not there yet", f, r, []api.Change{split(3, 4, 1), same}, r)
}

// P16.6: a range that is turned round between goes on, end by end, and comes out as it is.
func TestFoldTurned(t *testing.T) {
	f := sample.Tree(`a(#"uvw" #"vw")`)
	r := from(at(3, 3), at(4, 1))
	wantFold(t, "turned round", f, r, []api.Change{split(3, 4, 1)}, from(at(4, 2), at(4, 1)))
	if got, why := ranges.Adjust(f, r, split(3, 4, 1)); got != from(at(4, 2), at(4, 1)) || why != api.OK {
		t.Errorf("%v, error %d", got, why)
	}
	on := []api.Change{split(3, 4, 1), {Kind: api.ChangeData, Node: 4, Offset: 1, Count: 1}, {Kind: api.ChangeRemove, Node: 3, Parent: 2}, merge(4, 3, 0)}
	wantFold(t, "and on", f, r, on[:2], from(at(4, 1), at(4, 1)))
	wantFold(t, "and on", f, r, on, from(at(4, 1), at(4, 1)))
	wantFold(t, "and on, still turned round", f, r, []api.Change{on[0], on[2]}, from(at(4, 2), at(4, 1)))
	wantFold(t, "and into another tree", f, r, []api.Change{on[0], {Kind: api.ChangeRemove, Node: 4, Parent: 2, Index: 1}}, from(at(2, 1), at(2, 1)))
}

// P16.6: without changes, and without ranges, there is nothing to do; of many ranges each one becomes its own.
func TestFoldLists(t *testing.T) {
	f := family(t)
	l := []api.Range{from(at(xy, 1), at(b, 1)), from(at(a, 3), at(doc, 3)), from(at(lone, 0), at(lone, 2)), from(at(xy, 1), at(b, 1)), from(at(w, 0), at(a, 4))}
	for _, none := range [][]api.Change{nil, {}} {
		if got, why := ranges.Fold(f, l, none); why != api.OK || !slices.Equal(got, l) {
			t.Errorf("no changes: %v, error %d", got, why)
		}
	}
	cut := api.Change{Kind: api.ChangeRemove, Node: b, Parent: a, Index: 1}
	for _, none := range [][]api.Range{nil, {}} {
		if got, why := ranges.Fold(f, none, []api.Change{cut}); why != api.OK || len(got) != 0 {
			t.Errorf("no ranges: %v, error %d", got, why)
		}
	}
	want := []api.Range{from(at(xy, 1), at(a, 1)), from(at(a, 2), at(doc, 3)), from(at(lone, 0), at(lone, 2)), from(at(xy, 1), at(a, 1)), from(at(a, 1), at(a, 3))}
	if got, why := ranges.Fold(f, l, []api.Change{cut}); why != api.OK || !slices.Equal(got, want) {
		t.Errorf("%v, error %d", got, why)
	}
	if got, why := ranges.Fold(api.Forest{}, nil, nil); why != api.OK || len(got) != 0 {
		t.Errorf("nothing: %v, error %d", got, why)
	}
}
