package draft_test

import (
	"slices"
	"testing"

	"canopy/api"
	"canopy/draft"
	"canopy/forest"
	"canopy/order"
	"canopy/sample"
)

// aChange is one of any kind: not all of them can be done.
func aChange(d *sample.Dice, f api.Forest) api.Change {
	h, next := 1+d.Below(len(f.Nodes)), len(f.Nodes)+1
	n := f.Nodes[h-1]
	switch d.Below(10) {
	case 0:
		return api.Change{Kind: api.ChangeMake, Node: next, Made: sample.Loose(d, f)}
	case 1:
		return api.Change{Kind: api.ChangeShadow, Node: h, Other: next, Made: api.Node{Kind: api.KindShadow, Mode: api.ShadowClosed, Manual: true}}
	case 2:
		return api.Change{Kind: api.ChangeAdopt, Node: h, Doc: f.Nodes[d.Below(len(f.Nodes))].Doc}
	case 3:
		offset := d.Below(len(n.Data) + 1)
		return api.Change{Kind: api.ChangeData, Node: h, Offset: offset, Count: d.Below(len(n.Data) - offset + 1), Data: sample.Data(d)}
	case 4, 5:
		return sample.Naming(d, f)
	case 6:
		return api.Change{Kind: api.ChangeTree, Parent: h, Added: []int{h}}
	case 7:
		if n.Parent != 0 {
			return api.Change{Kind: api.ChangeRemove, Node: h, Parent: n.Parent, Index: slices.Index(f.Nodes[n.Parent-1].Kids, h)}
		}
	}
	return sample.Insertion(d, f)
}

// A draft that follows changes, or does them, has the forest that forest.Apply has; what was handed in stays as it is, and so does the room behind its lists.
func TestFollow(t *testing.T) {
	kinds := map[api.ChangeKind]int{}
	for seed := range 150 {
		d := sample.NewDice(seed)
		first := sample.Slotted(d, 4+d.Below(12))
		in := sample.Roomy(first)
		follower, doer := draft.Of(in), draft.Of(in)
		f := first
		var changes, given []api.Change
		for range 60 {
			c := aChange(d, f)
			g, why := forest.Apply(f, c)
			if why != api.OK {
				continue
			}
			f = g
			kinds[c.Kind]++
			changes, given = append(changes, c), append(given, sample.RoomyChange(c))
			follower.Follow(given[len(given)-1])
			doer.Do(given[len(given)-1])
			if !forest.Same(follower.Forest, f) || !forest.Same(doer.Forest, f) {
				t.Fatalf("seed %d: behind %+v: %+v, not %+v", seed, c, follower.Forest, f)
			}
		}
		if !forest.Same(in, first) || sample.Spoilt(in) || !sample.SameChanges(given, changes) {
			t.Fatalf("seed %d: what was handed in is another one", seed)
		}
		g, l, why := doer.Done()
		if why != api.OK || !forest.Same(g, f) || !sample.SameChanges(l, changes) || len(follower.Changes) > 0 {
			t.Fatalf("seed %d: error %d, %+v", seed, why, l)
		}
	}
	for k := api.ChangeMake; k < api.ChangeCount; k++ {
		if k != api.ChangeSplit && k != api.ChangeMerge && kinds[k] < 50 {
			t.Error("too few of a kind:", kinds)
		}
	}
}

// What a draft writes is not seen behind the lists that were handed in, nor in a change's.
func TestOwnLists(t *testing.T) {
	in := sample.Roomy(sample.Tree("a(b c)"))
	made := sample.RoomyChange(api.Change{Kind: api.ChangeMake, Node: 5, Made: api.Node{Kind: api.KindElement, Name: api.Name{Local: "e"}, Doc: 1}})
	d := draft.Of(in)
	d.Do(made)
	for _, c := range []api.Change{
		{Kind: api.ChangeInsert, Node: 5, Parent: 2, Index: 2},
		{Kind: api.ChangeRemove, Node: 3, Parent: 2},
		{Kind: api.ChangeInsert, Node: 3, Parent: 5},
		{Kind: api.ChangeAttr, Node: 5, Name: api.Name{Local: "x"}, Has: true},
		{Kind: api.ChangeAttr, Node: 4, Name: api.Name{Local: "x"}, Has: true},
	} {
		d.Do(c)
	}
	for _, l := range [][]int{in.Nodes[1].Kids[2:cap(in.Nodes[1].Kids)], made.Made.Kids[:cap(made.Made.Kids)]} {
		if slices.Max(l) != 0 {
			t.Error("the room behind a list of kids has", l)
		}
	}
	for _, l := range [][]api.Attr{in.Nodes[3].Attrs, made.Made.Attrs} {
		if l[:cap(l)][0].Name.Local != "" {
			t.Error("the room behind a list of attributes has", l[:cap(l)])
		}
	}
	if !slices.Equal(in.Nodes[1].Kids, []int{3, 4}) || !slices.Equal(d.Node(2).Kids, []int{4, 5}) {
		t.Error(in.Nodes[1].Kids, d.Node(2).Kids)
	}
}

// Kids are found by their places, and places by kids.
func TestPlaces(t *testing.T) {
	d := draft.Of(sample.Tree("a(b c(d) e)"))
	for _, x := range []struct {
		what      string
		got, want int
	}{
		{"the place of b", d.Place(2, 3), 0}, {"the place of e", d.Place(2, 6), 2}, {"behind all", d.Place(2, 0), 3},
		{"the first kid", d.KidAt(2, 0), 3}, {"none ahead", d.KidAt(2, -1), 0}, {"none behind", d.KidAt(2, 3), 0}, {"of none", d.KidAt(5, 0), 0},
		{"ahead of b", d.Ahead(3), 0}, {"ahead of e", d.Ahead(6), 4}, {"behind b", d.Behind(3), 4}, {"behind e", d.Behind(6), 0},
		{"the last kid", d.AheadOf(2, 0), 6}, {"ahead of c", d.AheadOf(2, 4), 3},
	} {
		if x.got != x.want {
			t.Errorf("%s: %d, not %d", x.what, x.got, x.want)
		}
	}
	if !d.Is(1, api.KindDocument) || d.Is(2, api.KindDocument) {
		t.Error("the document is none, or an element is one")
	}
}

// A node more is refused where there are MaxNodes, and data of more than MaxData units.
func TestMake(t *testing.T) {
	d := draft.Of(sample.Flat(api.MaxNodes - 1))
	text := api.Node{Kind: api.KindText, Doc: 1}
	long := api.Node{Kind: api.KindText, Doc: 1, Data: make(api.Units, api.MaxData+1)}
	if h, why := d.Make(long); h != 0 || why != api.ErrLong {
		t.Error(h, why)
	}
	if h, why := d.Make(text); h != api.MaxNodes || why != api.OK {
		t.Error(h, why)
	}
	for _, n := range []api.Node{text, long} {
		if h, why := d.Make(n); h != 0 || why != api.ErrMany {
			t.Error(h, why)
		}
	}
	if len(d.Changes) != 1 || len(d.Forest.Nodes) != api.MaxNodes {
		t.Error(len(d.Changes), len(d.Forest.Nodes))
	}
}

// What can't be done is refused in the end; more changes than forest.All takes at once are done all the same.
func TestDone(t *testing.T) {
	d := draft.Of(sample.Tree("a b"))
	if g, l, why := d.Done(); why != api.ErrHierarchy || g.Nodes != nil || l != nil {
		t.Error("a forest that is not right:", why)
	}
	d = draft.Of(sample.Flat(10))
	for range api.MaxList + 1 {
		d.Leave(3)
		d.PutTold(3, 2, 0)
	}
	g, l, why := d.Done()
	if why != api.OK || len(l) != 4*(api.MaxList+1) || !forest.Same(g, d.Forest) {
		t.Error(len(l), why)
	}
	f := sample.Flat(3)
	if g, l, why := draft.Of(f).Done(); why != api.OK || len(l) != 0 || !forest.Same(f, g) {
		t.Error("of no changes:", l, why)
	}
}

// Take goes on by what a call answers, if that is no error.
func TestTake(t *testing.T) {
	d := draft.Of(sample.Tree("a"))
	d.Tell(2, nil, nil, 0, 0)
	if why := d.Take(api.Forest{}, nil, api.ErrLong); why != api.ErrLong || len(d.Forest.Nodes) != 2 || len(d.Changes) != 1 {
		t.Error(why)
	}
	c := api.Change{Kind: api.ChangeMake, Node: 3, Made: api.Node{Kind: api.KindText, Doc: 1}}
	g, _ := forest.Apply(d.Forest, c)
	if why := d.Take(g, []api.Change{c}, api.OK); why != api.OK || !forest.Same(d.Forest, g) || len(d.Changes) != 2 {
		t.Error(why)
	}
}

// What is below a node, and whether it is in a document, is as order tells it, wherever changes have led.
func TestWhereNodesAre(t *testing.T) {
	connected, loose := 0, 0
	for seed := range 60 {
		d := sample.NewDice(seed)
		f := sample.Thick(d, 2+d.Below(14))
		follower := draft.Of(f)
		for _, c := range sample.Changes(d, f, 20) {
			follower.Follow(c)
		}
		for i := range follower.Forest.Nodes {
			h := i + 1
			deep, _ := order.Deep(follower.Forest, h)
			if got := slices.Collect(follower.Below(h)); !slices.Equal(got, deep) {
				t.Fatalf("seed %d: below %d: %v, not %v", seed, h, got, deep)
			}
			is, _ := order.Connected(follower.Forest, h)
			if follower.Connected(h) != is {
				t.Fatalf("seed %d: %d: not %v", seed, h, is)
			}
			if is {
				connected++
			} else {
				loose++
			}
		}
		for h := range follower.Below(1) {
			if h != 1 {
				t.Fatal("it is gone on where nothing more is wanted")
			}
			break
		}
	}
	if connected < 200 || loose < 200 {
		t.Error("too few:", connected, loose)
	}
}
