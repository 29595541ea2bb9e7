package react_test

import (
	"testing"

	"canopy/api"
	"canopy/react"
	"canopy/sample"
)

func inserting(h, parent, index int) api.Change {
	return api.Change{Kind: api.ChangeInsert, Node: h, Parent: parent, Index: index}
}

func removing(h, parent, index int) api.Change {
	return api.Change{Kind: api.ChangeRemove, Node: h, Parent: parent, Index: index}
}

func local(s string) api.Name { return api.Name{Local: s} }

// wanting are definitions of x-a and x-b, which want all, and of a button that is an x-c; the elements are custom ones of x-a.
func wanting(elements ...int) api.Registry {
	r := api.Registry{Definitions: []api.Definition{
		{Name: "x-a", Local: "x-a", Constructor: 1, Connected: 11, Disconnected: 12, Adopted: 13, Changed: 14, Observed: []string{"p", "q"}},
		{Name: "x-b", Local: "x-b", Constructor: 2, Connected: 21, Disconnected: 22, Adopted: 23, Changed: 24, Observed: []string{"p"}},
		{Name: "x-c", Local: "button", Constructor: 3, Connected: 31, Disconnected: 32},
	}}
	for _, h := range elements {
		r.Elements = append(r.Elements, api.Custom{Node: h, State: api.StateCustom, Definition: "x-a"})
	}
	return r
}

// wantFold sees what waits behind changes, where there is a list: just that.
func wantFold(t *testing.T, what string, f api.Forest, reg api.Registry, want string, changes ...api.Change) {
	t.Helper()
	s, seen, why := react.Fold(f, api.Reacts{Stack: lists(nil)}, reg, changes)
	wantWaits(t, what, s, seen, why, want, false)
}

// P26.4: of each kind of change, for a custom element that wants all.
func TestKindsOfChanges(t *testing.T) {
	f := attributed(sample.Cast(`a(x(#"ab" #)) ~(x)`), 3, "p", "urn: q", "r")
	f.Nodes = append(f.Nodes,
		api.Node{Kind: api.KindElement, Name: api.Name{Space: api.SpaceHTML, Local: "x-a"}, Doc: 1}, api.Node{Kind: api.KindDocument, Doc: 9})
	reg := wanting(3, 7, 8, 10)
	for what, x := range map[string]struct {
		c    api.Change
		want string
	}{
		"made":                   {api.Change{Kind: api.ChangeMake, Node: 10, Made: f.Nodes[7]}, "|"},
		"inserted":               {inserting(8, 2, 1), "8(+11) |8"},
		"into a custom one":      {inserting(8, 3, 0), "8(+11) |8"},
		"inserted, loose":        {inserting(8, 7, 0), "|"},
		"inserted in a fragment": {inserting(8, 6, 0), "|"},
		"removed":                {removing(3, 2, 0), "3(-12) |3"},
		"removed, loose":         {removing(7, 6, 0), "|"},
		"a text removed":         {removing(4, 3, 0), "|"},
		"adopted":                {api.Change{Kind: api.ChangeAdopt, Node: 8, Doc: 9}, "8(~1>9:13) |8"},
		"adopted to where it is": {api.Change{Kind: api.ChangeAdopt, Node: 8, Doc: 1}, "8(~1>1:13) |8"},
		"adopted in a fragment":  {api.Change{Kind: api.ChangeAdopt, Node: 6, Doc: 9}, "7(~1>9:13) |7"},
		"data":                   {api.Change{Kind: api.ChangeData, Node: 4, Data: api.Units{'z'}}, "|"},
		"an attribute":           {api.Change{Kind: api.ChangeAttr, Node: 3, Name: local("q"), Has: true, Value: "v"}, "3([q>v]14) |3"},
		"an empty one":           {api.Change{Kind: api.ChangeAttr, Node: 8, Name: local("q"), Has: true}, "8([q>]14) |8"},
		"another value":          {api.Change{Kind: api.ChangeAttr, Node: 3, Name: local("p"), Had: true, Old: "1", Has: true, Value: "v"}, "3([p=1>v]14) |3"},
		"the same value":         {api.Change{Kind: api.ChangeAttr, Node: 3, Name: local("p"), Had: true, Old: "1", Has: true, Value: "1"}, "3([p=1>1]14) |3"},
		"no attribute more":      {api.Change{Kind: api.ChangeAttr, Node: 3, Name: local("p"), Had: true, Old: "1"}, "3([p=1]14) |3"},
		"of a namespace":         {api.Change{Kind: api.ChangeAttr, Node: 3, Name: api.Name{Space: "urn:", Prefix: "u", Local: "q"}, Had: true, Old: "2", Has: true, Value: "v"}, "3([urn:q=2>v]14) |3"},
		"one that none observes": {api.Change{Kind: api.ChangeAttr, Node: 3, Name: local("r"), Had: true, Old: "3"}, "|"},
		"of one that is loose":   {api.Change{Kind: api.ChangeAttr, Node: 7, Name: local("p"), Has: true, Value: "v"}, "7([p>v]14) |7"},
		"of no custom one":       {api.Change{Kind: api.ChangeAttr, Node: 2, Name: local("p"), Has: true, Value: "v"}, "|"},
		"a shadow root":          {api.Change{Kind: api.ChangeShadow, Node: 3, Other: 10, Made: api.Node{Kind: api.KindShadow, Mode: api.ShadowOpen}}, "|"},
		"split":                  {api.Change{Kind: api.ChangeSplit, Node: 4, Other: 5, Offset: 1}, "|"},
		"merged":                 {api.Change{Kind: api.ChangeMerge, Node: 4, Other: 5, Offset: 1}, "|"},
		"kids told":              {api.Change{Kind: api.ChangeTree, Parent: 2, Added: []int{3}, Removed: []int{8}}, "|"},
	} {
		wantFold(t, what, f, reg, x.want, x.c)
	}
	wantFold(t, "of none", f, reg, "|")
	wantFold(t, "with nothing custom", f, api.Registry{}, "|", removing(3, 2, 0), inserting(3, 2, 0))
}

// P26.4: all elements within are told, through shadow trees, in that order; in a connected parent alone.
func TestFoldDeep(t *testing.T) {
	loose := sample.Cast("a ~ x{x(x) #}(x(#) y{x} x)")
	loose.Nodes[0].Kids, loose.Nodes[3].Parent = []int{2}, 0
	f := sample.Copy(loose)
	f.Nodes[1].Kids, f.Nodes[3].Parent = []int{4}, 2
	reg := wanting(4, 6, 7, 9, 13, 14)
	in := "4(+11) 6(+11) 7(+11) 9(+11) 11(^x-b) 13(+11) 14(+11) |4.6.7.9.11.13.14"
	out := "4(-12) 6(-12) 7(-12) 9(-12) 13(-12) 14(-12) |4.6.7.9.13.14"
	wantFold(t, "inserted", loose, reg, in, inserting(4, 2, 0))
	wantFold(t, "inserted, loose", loose, reg, "|", inserting(4, 3, 0))
	wantFold(t, "removed", f, reg, out, removing(4, 2, 0))
	wantFold(t, "removed within", f, reg, "13(-12) |13", removing(11, 4, 1))
	wantFold(t, "removed within a shadow tree", f, reg, "6(-12) 7(-12) |6.7", removing(6, 5, 0))
	wantFold(t, "inserted into a shadow tree", f, reg, "7(-12 +11) |7.7", removing(7, 6, 0), inserting(7, 5, 2))
	wantFold(t, "in a loose shadow tree", loose, reg, "|", removing(7, 6, 0), inserting(7, 5, 2))
	wantFold(t, "a text", f, reg, "|", removing(8, 5, 1), inserting(8, 4, 0))
	two := sample.Copy(loose)
	two.Nodes = append(two.Nodes, api.Node{Kind: api.KindDocument, Doc: 15})
	wantFold(t, "adopted", two, reg, "4(~1>15:13) 6(~1>15:13) 7(~1>15:13) 9(~1>15:13) 13(~1>15:13) 14(~1>15:13) |4.6.7.9.13.14", api.Change{Kind: api.ChangeAdopt, Node: 4, Doc: 15})
	wantFold(t, "to another document", two, reg, "4(~1>15:13 +11) 6(~1>15:13 +11) 7(~1>15:13 +11) 9(~1>15:13 +11) 13(~1>15:13 +11) 14(~1>15:13 +11) 11(^x-b) |4.6.7.9.13.14.4.6.7.9.11.13.14",
		api.Change{Kind: api.ChangeAdopt, Node: 4, Doc: 15}, inserting(4, 15, 0))
}

// P26.4: what comes into a document is told, or upgraded, by its state; what goes, by its state, too.
func TestFoldStates(t *testing.T) {
	f := sample.Cast("a(b) ~(x x x x x u u u w)")
	reg := wanting()
	reg.Elements = []api.Custom{
		{Node: 5, State: api.StateCustom, Definition: "x-b"}, {Node: 6, State: api.StateFailed, Definition: "x-a"}, {Node: 7, State: api.StateUndefined}, {Node: 8, State: api.StateUncustomized, Is: "x-c"},
		{Node: 10, State: api.StateUndefined, Is: "x-c"}, {Node: 11, State: api.StateUndefined}, {Node: 12, Is: "x-c"}, {Node: 13, State: api.StateUndefined},
	}
	for h, want := range map[int][2]string{
		5:  {"5(+21) |5", "5(+21 -22) |5.5"},
		6:  {"|", "|"},
		7:  {"7(^x-a) |7", "7(^x-a) |7"},
		8:  {"8(^x-a) |8", "8(^x-a) |8"},
		9:  {"9(^x-a) |9", "9(^x-a) |9"},
		10: {"10(^x-c) |10", "10(^x-c) |10"},
		11: {"|", "|"},
		12: {"12(^x-c) |12", "12(^x-c) |12"},
		13: {"|", "|"},
	} {
		changes := []api.Change{removing(h, 4, h-5), inserting(h, 3, 0), removing(h, 3, 0)}
		wantFold(t, "it comes", f, reg, want[0], changes[:2]...)
		wantFold(t, "it comes and goes", f, reg, want[1], changes...)
	}
}

// P26.4: where nodes stand just ahead of each change; nodes that are made meanwhile, shadow roots, too.
func TestFoldMeanwhile(t *testing.T) {
	f := sample.Cast("a(b)")
	made := func(h int, name string) api.Change {
		return api.Change{Kind: api.ChangeMake, Node: h, Made: api.Node{Kind: api.KindElement, Name: api.Name{Space: api.SpaceHTML, Local: name}, Doc: 1}}
	}
	root := api.Change{Kind: api.ChangeShadow, Node: 4, Other: 7, Made: api.Node{Kind: api.KindShadow, Mode: api.ShadowClosed}}
	begin := []api.Change{made(4, "x-a"), made(5, "x-a"), made(6, "x-b"), root, inserting(5, 7, 0), inserting(6, 4, 0)}
	wantFold(t, "put together, loose", f, wanting(4, 5), "|", begin...)
	all := append(begin, inserting(4, 3, 0))
	wantFold(t, "and into the document", f, wanting(4, 5), "4(+11) 5(+11) 6(^x-b) |4.5.6", all...)
	all = append(all, removing(3, 2, 0))
	wantFold(t, "and out of it", f, wanting(4, 5), "4(+11 -12) 5(+11 -12) 6(^x-b) |4.5.6.4.5", all...)
	all = append(all, removing(5, 7, 0), removing(6, 4, 0), inserting(6, 2, 0), inserting(5, 2, 0))
	wantFold(t, "and in parts, back", f, wanting(4, 5), "4(+11 -12) 5(+11 -12 +11) 6(^x-b ^x-b) |4.5.6.4.5.6.5", all...)
	attr := api.Change{Kind: api.ChangeAttr, Node: 4, Name: local("p"), Has: true, Value: "v"}
	again := api.Change{Kind: api.ChangeAttr, Node: 4, Name: local("p"), Had: true, Old: "v", Has: true, Value: "w"}
	wantFold(t, "attributes, and all else, in order", f, wanting(4), "4([p>v]14 +11 [p=v>w]14 -12 +11) |4.4.4.4.4",
		made(4, "x-a"), attr, inserting(4, 2, 0), again, removing(4, 2, 0), inserting(4, 3, 0))
}

// P26.4, P26.11: with the backup list, which must be seen to by any of the changes, if it was not being seen to.
func TestFoldBackup(t *testing.T) {
	f, reg := sample.Cast("a(x y x)"), wanting(3, 5)
	changes := []api.Change{removing(5, 2, 2), removing(4, 2, 1), inserting(4, 2, 0), removing(3, 2, 1)}
	for _, x := range []struct {
		what, want string
		s          api.Reacts
		seen       bool
	}{
		{"nothing waits", "5(-12) 4(^x-b) 3(-12) =5.4.3 *", api.Reacts{}, true},
		{"Busy", "5(-12) 4(^x-b) 3(-12) =5.4.3 *", api.Reacts{Busy: true}, false},
		{"something waits", "4(+1 ^x-b) 9(+1) 5(-12) 3(-12) =9.5.4.3 *", api.Reacts{Queues: []api.ReactQueue{queue(4, 1), queue(9, 1)}, Backup: []int{9}}, true},
		{"with lists", "5(-12) 4(^x-b) 3(-12) |9 |5.4.3 =8", api.Reacts{Stack: lists([]int{9}, nil), Backup: []int{8}}, false},
	} {
		s, seen, why := react.Fold(f, x.s, reg, changes)
		wantWaits(t, x.what, s, seen, why, x.want, x.seen)
	}
	s, seen, why := react.Fold(f, api.Reacts{}, reg, changes[1:2])
	wantWaits(t, "nothing is told", s, seen, why, "", false)
	s, seen, why = react.Fold(f, api.Reacts{}, reg, []api.Change{removing(4, 2, 1), removing(3, 2, 0)})
	wantWaits(t, "by the last of the changes", s, seen, why, "3(-12) =3 *", true)
}
