package ranges_test

import (
	"math"
	"slices"
	"testing"
	"time"

	"canopy/api"
	"canopy/forest"
	"canopy/ranges"
	"canopy/sample"
)

// wantZero has a call refuse, with nothing but the error.
func wantZero(t *testing.T, what string, no api.Errno) func(api.Range, api.Errno) {
	t.Helper()
	return func(got api.Range, why api.Errno) {
		t.Helper()
		if got != (api.Range{}) || why != no {
			t.Errorf("%s: %v, error %d; want error %d", what, got, why, no)
		}
	}
}

func wantCompareRefused(t *testing.T, f api.Forest, how int, r, s api.Range, no api.Errno) {
	t.Helper()
	if n, why := ranges.Compare(f, how, r, s); n != 0 || why != no {
		t.Errorf("Compare of %v, %v: %d, error %d; want error %d", r, s, n, why, no)
	}
}

func wantHasRefused(t *testing.T, f api.Forest, r api.Range, b api.Bound, no api.Errno) {
	t.Helper()
	if is, why := ranges.Has(f, r, b); is || why != no {
		t.Errorf("Has of %v, %v: %v, error %d; want error %d", r, b, is, why, no)
	}
}

func wantFoldRefused(t *testing.T, what string, f api.Forest, l []api.Range, changes []api.Change, no api.Errno) {
	t.Helper()
	if got, why := ranges.Fold(f, l, changes); got != nil || why != no {
		t.Errorf("%s: Fold: %v, error %d; want error %d", what, got, why, no)
	}
}

// wantBesideRefused has the calls that take a range and a node refuse, or those that take a range and a point of that node.
func wantBesideRefused(t *testing.T, f api.Forest, r api.Range, h, offset int, no api.Errno) {
	t.Helper()
	for _, side := range []api.Side{api.SideBefore, api.SideAfter, api.SideCount, 255} {
		wantZero(t, "StartBeside", no)(ranges.StartBeside(f, r, side, h))
		wantZero(t, "EndBeside", no)(ranges.EndBeside(f, r, side, h))
	}
	wantZero(t, "Select", no)(ranges.Select(f, r, h))
	wantZero(t, "Contents", no)(ranges.Contents(f, r, h))
	wantZero(t, "Start", no)(ranges.Start(f, r, at(h, offset)))
	wantZero(t, "End", no)(ranges.End(f, r, at(h, offset)))
	wantHasRefused(t, f, r, at(h, offset), no)
}

// wantFault has every call that takes a range refuse it, whatever else is wrong behind the fault, so long as all nodes are there.
func wantFault(t *testing.T, f api.Forest, r api.Range, no api.Errno) {
	t.Helper()
	for _, h := range []int{1, 2, 3} {
		for _, offset := range []int{0, -1, 99} {
			wantBesideRefused(t, f, r, h, offset, no)
		}
	}
	fine := from(at(1, 0), at(1, 0))
	for _, how := range []int{0, 1, 2, 3, 4, -1} {
		wantCompareRefused(t, f, how, r, fine, no)
		wantCompareRefused(t, f, how, fine, r, no)
		wantCompareRefused(t, f, how, r, r, no)
	}
	for _, c := range []api.Change{{}, {Kind: api.ChangeTree}, {Kind: api.ChangeRemove, Node: 99}} {
		wantZero(t, "Adjust", no)(ranges.Adjust(f, r, c))
	}
	wantZero(t, "Collapse", no)(ranges.Collapse(f, r, true))
	wantZero(t, "Collapse", no)(ranges.Collapse(f, r, false))
	for _, changes := range [][]api.Change{nil, {{}}, make([]api.Change, api.MaxList+1)} {
		wantFoldRefused(t, "one", f, []api.Range{r}, changes, no)
		wantFoldRefused(t, "the last one", f, []api.Range{fine, fine, r}, changes, no)
		wantFoldRefused(t, "the first one", f, []api.Range{r, fine}, changes, no)
	}
}

// Words: a forest that is not right goes ahead of all.
func TestTornForest(t *testing.T) {
	for _, f := range sample.Torn() {
		for _, b := range []api.Bound{at(1, 0), at(0, 0), at(3, -1), at(99999, 1), at(math.MinInt, math.MaxInt)} {
			wantFault(t, f, from(b, b), api.ErrForest)
			wantFault(t, f, from(at(1, 0), b), api.ErrForest)
			wantZero(t, "New", api.ErrForest)(ranges.New(f, b.Node))
			wantBesideRefused(t, f, from(b, b), b.Node, b.Offset, api.ErrForest)
		}
		wantFoldRefused(t, "too many ranges, too", f, make([]api.Range, api.MaxList+1), nil, api.ErrForest)
		wantFoldRefused(t, "nothing else", f, nil, nil, api.ErrForest)
	}
}

// noNodes are handles of none of the family.
func noNodes() []int { return []int{0, -1, loneType + 1, math.MaxInt, math.MinInt} }

// Words: then a node that is none, of a range, of a point, or by itself.
func TestNoNode(t *testing.T) {
	f := family(t)
	for _, h := range noNodes() {
		for _, offset := range []int{0, -1, 1, math.MaxInt, math.MinInt} {
			wantFault(t, f, from(at(h, offset), at(doc, 0)), api.ErrRange)
			wantFault(t, f, from(at(doc, 0), at(h, offset)), api.ErrRange)
			// ahead of an end that is no point, and of a range that is not valid
			wantFault(t, f, from(at(xy, 3), at(h, offset)), api.ErrRange)
			wantFault(t, f, from(at(h, offset), at(xy, -1)), api.ErrRange)
			for _, r := range []api.Range{from(at(xy, 1), at(b, 1)), from(at(b, 1), at(xy, 1)), from(at(xy, 1), at(lone, 0)), from(at(xy, 3), at(b, 1)), from(at(xy, 1), at(b, -1))} {
				wantBesideRefused(t, f, r, h, offset, api.ErrRange)
				wantCompareRefused(t, f, 9, r, from(at(doc, 0), at(h, offset)), api.ErrRange)
				wantCompareRefused(t, f, 0, from(at(h, offset), at(doc, 0)), r, api.ErrRange)
			}
		}
		wantZero(t, "New", api.ErrRange)(ranges.New(f, h))
	}
	wantZero(t, "New in nothing", api.ErrRange)(ranges.New(api.Forest{}, 1))
}

// Words: then an end that is no point, of any range, ahead of one that is not valid.
func TestNoPoint(t *testing.T) {
	f := family(t)
	turned := from(at(b, 1), at(xy, 1))
	for h := 1; h <= len(f.Nodes); h++ {
		for _, offset := range []int{-1, lengths()[h] + 1, math.MaxInt, math.MinInt} {
			for _, r := range []api.Range{from(at(h, offset), at(doc, 0)), from(at(doc, 3), at(h, offset)), from(at(h, offset), at(h, offset))} {
				wantFault(t, f, r, api.ErrIndexSize)
				wantCompareRefused(t, f, 0, turned, r, api.ErrIndexSize)
				wantCompareRefused(t, f, 4, r, turned, api.ErrIndexSize)
			}
		}
	}
}

// Words: then a range that is not valid: turned round, or in two trees.
func TestNotValid(t *testing.T) {
	f := family(t)
	for _, r := range []api.Range{
		from(at(b, 1), at(xy, 1)), from(at(xy, 2), at(xy, 1)), from(at(a, 2), at(w, 1)), from(at(doc, 3), at(doc, 0)),
		from(at(xy, 1), at(lone, 1)), from(at(lone, 1), at(xy, 1)), from(at(e, 0), at(shadow, 0)), from(at(fragment, 0), at(loneType, 0)),
	} {
		wantFault(t, f, r, api.ErrState)
	}
}

// P16.2, P16.5: then a doctype, then an offset that is none; of Has both behind whether it is in another tree.
func TestSetErrors(t *testing.T) {
	f := family(t)
	r := from(at(xy, 1), at(b, 1))
	for _, h := range []int{doctype, loneType} {
		for _, offset := range []int{0, -1, 1, math.MaxInt} {
			wantZero(t, "Start in a doctype", api.ErrNodeType)(ranges.Start(f, r, at(h, offset)))
			wantZero(t, "End in a doctype", api.ErrNodeType)(ranges.End(f, r, at(h, offset)))
		}
	}
	for h := 1; h <= len(f.Nodes); h++ {
		if h == doctype || h == loneType {
			continue
		}
		for _, offset := range []int{-1, lengths()[h] + 1, math.MaxInt, math.MinInt} {
			wantZero(t, "Start", api.ErrIndexSize)(ranges.Start(f, r, at(h, offset)))
			wantZero(t, "End", api.ErrIndexSize)(ranges.End(f, r, at(h, offset)))
			no := api.ErrIndexSize
			if h >= lone {
				no = api.OK
			}
			wantHasRefused(t, f, r, at(h, offset), no)
		}
	}
	for _, offset := range []int{0, -1, 1, math.MinInt} {
		wantHasRefused(t, f, r, at(doctype, offset), api.ErrNodeType)
		wantHasRefused(t, f, r, at(loneType, offset), api.OK)
	}
	self := from(at(doctype, 0), at(doctype, 0))
	wantHasRefused(t, f, self, at(doctype, 0), api.ErrNodeType)
}

// P16.3: a side that is none of the two goes ahead of a node that has no parent.
func TestSides(t *testing.T) {
	f := family(t)
	r := from(at(xy, 1), at(b, 1))
	for _, side := range []api.Side{api.SideCount, api.SideCount + 1, 255} {
		for _, h := range []int{doc, b, lone, doctype, loneType} {
			wantZero(t, "StartBeside", api.ErrType)(ranges.StartBeside(f, r, side, h))
			wantZero(t, "EndBeside", api.ErrType)(ranges.EndBeside(f, r, side, h))
		}
	}
}

// P16.5: a how that is none goes ahead of ranges in two trees.
func TestHows(t *testing.T) {
	f := family(t)
	r, s := from(at(xy, 1), at(b, 1)), from(at(lone, 0), at(lone, 1))
	for _, how := range []int{-1, 4, 5, math.MaxInt, math.MinInt} {
		wantCompareRefused(t, f, how, r, r, api.ErrUnsupported)
		wantCompareRefused(t, f, how, r, s, api.ErrUnsupported)
	}
}

// P16.6: changes that can't be done have forest.Apply's and forest.All's error, behind the fault.
func TestChangesThatCannotBe(t *testing.T) {
	f := family(t)
	r := from(at(xy, 1), at(b, 1))
	fine := api.Change{Kind: api.ChangeTree}
	for what, c := range map[string]api.Change{
		"of no kind":                 {},
		"of an unknown kind":         {Kind: api.ChangeCount},
		"another kind's field":       {Kind: api.ChangeRemove, Node: b, Parent: a, Index: 1, Offset: 1},
		"from another parent":        {Kind: api.ChangeRemove, Node: b, Parent: doc, Index: 1},
		"from another place":         {Kind: api.ChangeRemove, Node: b, Parent: a, Index: 2},
		"of no node":                 {Kind: api.ChangeRemove, Node: 99, Parent: a},
		"beyond the kids":            {Kind: api.ChangeInsert, Node: lone, Parent: a, Index: 6},
		"of a node that hangs":       {Kind: api.ChangeInsert, Node: xy, Parent: b},
		"beyond the data":            {Kind: api.ChangeData, Node: xy, Offset: 1, Count: 2},
		"of no data":                 {Kind: api.ChangeData, Node: e},
		"a split of nodes not there": {Kind: api.ChangeSplit, Node: xy, Other: 99},
		"a merge of nodes not there": {Kind: api.ChangeMerge, Node: -1, Other: xy},
		"a split with a count":       {Kind: api.ChangeSplit, Node: xy, Other: b, Count: 1},
	} {
		wantZero(t, what, api.ErrRange)(ranges.Adjust(f, r, c))
		wantFoldRefused(t, what, f, []api.Range{r}, []api.Change{fine, c}, api.ErrRange)
		wantFoldRefused(t, what, f, nil, []api.Change{c}, api.ErrRange)
	}
	stuffed := sample.Flat(api.MaxNodes)
	more := api.Change{Kind: api.ChangeMake, Node: api.MaxNodes + 1, Made: api.Node{Kind: api.KindText, Doc: 1}}
	in := from(at(2, 0), at(2, 1))
	wantZero(t, "one node too many", api.ErrMany)(ranges.Adjust(stuffed, in, more))
	wantFoldRefused(t, "one node too many", stuffed, []api.Range{in}, []api.Change{fine, more}, api.ErrMany)
	wantFoldRefused(t, "one change too many", f, []api.Range{r}, slices.Repeat([]api.Change{fine}, api.MaxList+1), api.ErrMany)
	wantFoldRefused(t, "one change too many, none of which can be", f, nil, make([]api.Change, api.MaxList+1), api.ErrMany)
}

// P16.6: ErrMany goes ahead of the ranges' faults, the fault of the first one ahead of those of others, and all of them ahead of the changes.
func TestFoldErrors(t *testing.T) {
	f := family(t)
	fine, turned, wide, none := from(at(xy, 1), at(b, 1)), from(at(b, 1), at(xy, 1)), from(at(xy, 3), at(b, 1)), from(at(0, 0), at(b, 1))
	full := slices.Repeat([]api.Range{fine}, api.MaxList)
	bad := []api.Change{{Kind: api.ChangeTree}, {}}
	for _, x := range []struct {
		what    string
		l       []api.Range
		changes []api.Change
		no      api.Errno
	}{
		{"one range too many", append(full[:api.MaxList:api.MaxList], fine), nil, api.ErrMany},
		{"one too many, and wrong ones", append([]api.Range{none, turned}, full...), bad, api.ErrMany},
		{"one too many, all zero", make([]api.Range, api.MaxList+1), bad, api.ErrMany},
		{"the last one of MaxList", append(full[:api.MaxList-1:api.MaxList-1], turned), bad, api.ErrState},
		{"first turned round", []api.Range{fine, turned, wide, none}, bad, api.ErrState},
		{"first no point", []api.Range{fine, wide, none, turned}, bad, api.ErrIndexSize},
		{"first no node", []api.Range{fine, none, turned, wide}, bad, api.ErrRange},
		{"all fine, but a change", full, bad, api.ErrRange},
	} {
		wantFoldRefused(t, x.what, f, x.l, x.changes, x.no)
	}
}

// P16.6: MaxList ranges are folded, by MaxList changes.
func TestFoldLimits(t *testing.T) {
	f := family(t)
	changes := slices.Repeat([]api.Change{{Kind: api.ChangeTree}}, api.MaxList)
	changes[api.MaxList-1] = api.Change{Kind: api.ChangeRemove, Node: b, Parent: a, Index: 1}
	full := slices.Repeat([]api.Range{from(at(xy, 1), at(w, 1))}, api.MaxList)
	got, why := ranges.Fold(f, full, changes)
	if want := slices.Repeat([]api.Range{from(at(xy, 1), at(a, 1))}, api.MaxList); why != api.OK || !slices.Equal(got, want) {
		t.Fatalf("%d ranges, error %d", len(got), why)
	}
}

// P16.7: no call changes what it is handed, and what Fold answers is new memory.
func TestNewMemory(t *testing.T) {
	f := sample.Tree(`a(#"uvw" b)`)
	r := from(at(3, 1), at(2, 2))
	text := api.Node{Kind: api.KindText, Doc: 1, Data: api.Units{'w'}}
	changes := []api.Change{
		{Kind: api.ChangeMake, Node: 5, Made: text},
		{Kind: api.ChangeInsert, Node: 5, Parent: 2, Index: 1},
		{Kind: api.ChangeTree, Parent: 2, Added: []int{5}, Prev: 3, Next: 4},
		split(3, 5, 2),
		{Kind: api.ChangeData, Node: 3, Offset: 2, Count: 1},
		{Kind: api.ChangeData, Node: 5, Offset: 1, Data: api.Units{'x'}},
		{Kind: api.ChangeMake, Node: 6, Made: api.Node{Kind: api.KindElement, Name: api.Name{Local: "c"}, Doc: 1}},
		{Kind: api.ChangeInsert, Node: 6, Parent: 2},
		{Kind: api.ChangeRemove, Node: 4, Parent: 2, Index: 3},
		{Kind: api.ChangeInsert, Node: 4, Parent: 6},
	}
	in, l := sample.Roomy(f), slices.Grow([]api.Range{r, r}, 4)
	var given []api.Change
	for _, c := range changes {
		given = append(given, sample.RoomyChange(c))
	}
	wants := []api.Range{from(at(3, 1), at(2, 3)), from(at(3, 1), at(2, 3))}
	got, why := ranges.Fold(in, l, given)
	if why != api.OK || !slices.Equal(got, wants) {
		t.Fatalf("%v, error %d", got, why)
	}
	if !forest.Same(in, f) || sample.Spoilt(in) || !roomLeft(in) || !slices.Equal(l, []api.Range{r, r}) || !sample.SameChanges(given, changes) {
		t.Error("what is handed in changes")
	}
	for _, c := range given {
		if !emptyRoom(c.Made.Kids) || !emptyRoom(c.Made.Data[len(c.Made.Data):]) || !emptyRoom(c.Data[len(c.Data):]) {
			t.Errorf("the room behind a list of %+v changes", c)
		}
	}
	sample.Fill(got, from(at(99, 99), at(99, 99)))
	if !slices.Equal(l, []api.Range{r, r}) || l[:cap(l)][cap(l)-1] != (api.Range{}) {
		t.Error("the list that was handed in changes with the answer")
	}
	got, _ = ranges.Fold(in, l, given)
	sample.Spoil(in)
	sample.SpoilChanges(given)
	sample.Fill(l, api.Range{})
	if !slices.Equal(got, wants) {
		t.Error("the answer changes with what was handed in")
	}
	still := slices.Grow([]api.Range{r}, 4)
	same, _ := ranges.Fold(f, still, nil)
	same[0].Start.Offset = 7
	if still[0] != r {
		t.Error("without changes the list that was handed in is answered")
	}
}

// emptyRoom tells whether nothing was written into the room behind a list of nothing.
func emptyRoom[T comparable](l []T) bool {
	var zero T
	return !slices.ContainsFunc(l[:cap(l)], func(one T) bool { return one != zero })
}

// roomLeft tells whether nothing was written into the room behind the lists of kids and data.
func roomLeft(f api.Forest) bool {
	return !slices.ContainsFunc(f.Nodes, func(n api.Node) bool {
		return !emptyRoom(n.Kids[len(n.Kids):]) || !emptyRoom(n.Data[len(n.Data):])
	})
}

// P16.7: asking, and Adjust, change nothing.
func TestAskingChangesNothing(t *testing.T) {
	f := family(t)
	in, r := sample.Roomy(f), from(at(xy, 1), at(b, 1))
	ranges.New(in, doc)
	ranges.Start(in, r, at(a, 0))
	ranges.End(in, r, at(lone, 0))
	ranges.StartBeside(in, r, api.SideAfter, b)
	ranges.EndBeside(in, r, api.SideBefore, xy)
	ranges.Collapse(in, r, true)
	ranges.Select(in, r, b)
	ranges.Contents(in, r, b)
	ranges.Compare(in, 1, r, r)
	ranges.Has(in, r, at(b, 0))
	ranges.Adjust(in, r, api.Change{Kind: api.ChangeRemove, Node: b, Parent: a, Index: 1})
	ranges.Adjust(in, r, api.Change{Kind: api.ChangeInsert, Node: lone, Parent: a, Index: 1})
	ranges.Adjust(in, r, api.Change{Kind: api.ChangeData, Node: xy, Data: api.Units{'q'}})
	if !forest.Same(in, f) || sample.Spoilt(in) || !roomLeft(in) {
		t.Error("the forest changes")
	}
}

// swaps are MaxList changes that take two kids of a parent away and put them back, turn by turn: the one that stands first goes to the end.
func swaps(parent, a, b int) []api.Change {
	var l []api.Change
	for i := range api.MaxList / 2 {
		h := []int{a, b}[i%2]
		l = append(l, api.Change{Kind: api.ChangeRemove, Node: h, Parent: parent}, api.Change{Kind: api.ChangeInsert, Node: h, Parent: parent, Index: 1})
	}
	return l
}

// wordy is a flat forest of the greatest size, whose elements have all attributes that they may have, and whose first two texts are as long as they may be.
func wordy() api.Forest {
	f := sample.Flat(api.MaxNodes)
	for i := range f.Nodes[4:] {
		n := &f.Nodes[4+i]
		n.Kind, n.Name.Local = api.KindElement, "e"
		for j := range api.MaxAttrs {
			n.Attrs = append(n.Attrs, api.Attr{Name: api.Name{Local: "attribute" + string(rune('0'+j))}})
		}
	}
	f.Nodes[2].Data, f.Nodes[3].Data = make(api.Units, api.MaxData), make(api.Units, api.MaxData)
	return f
}

// P1: MaxList ranges, each another one, in the greatest forests come through MaxList changes of each kind soon.
func TestGreatFold(t *testing.T) {
	started := time.Now()
	half := api.MaxNodes / 2
	deep := sample.Deep(api.MaxNodes)
	deep.Nodes[half-1].Parent, deep.Nodes[half-2].Kids, deep.Nodes[1].Kids = 2, nil, []int{3, half}
	data := api.Change{Kind: api.ChangeData, Node: 3, Offset: 0, Count: 1, Data: api.Units{0}}
	for what, x := range map[string]struct {
		f       api.Forest
		changes []api.Change
	}{
		"deep":         {deep, swaps(2, 3, half)},
		"flat":         {sample.Flat(api.MaxNodes), slices.Repeat([]api.Change{{Kind: api.ChangeRemove, Node: 4, Parent: 2, Index: 1}, {Kind: api.ChangeInsert, Node: 4, Parent: 2, Index: 1}}, api.MaxList/2)},
		"long":         {wordy(), slices.Repeat([]api.Change{data}, api.MaxList)},
		"long, merged": {wordy(), slices.Repeat([]api.Change{merge(3, 4, 0)}, api.MaxList)},
		"long, split":  {wordy(), slices.Repeat([]api.Change{split(3, 4, 0)}, api.MaxList)},
	} {
		var l []api.Range
		for i := range api.MaxList {
			l = append(l, from(at(i%api.MaxNodes+1, 0), at(1, 1)))
		}
		got, why := ranges.Fold(x.f, l, x.changes)
		if why != api.OK || len(got) != len(l) {
			t.Errorf("%s: %d ranges, error %d", what, len(got), why)
		}
	}
	if took := time.Since(started); took > time.Minute {
		t.Error("it takes too long:", took)
	}
}
