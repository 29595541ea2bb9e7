package observe_test

import (
	"slices"
	"strconv"
	"testing"

	"canopy/api"
	"canopy/forest"
	"canopy/observe"
	"canopy/sample"
)

func local(s string) api.Name { return api.Name{Local: s} }

// setting is a change of an attribute that was not there.
func setting(h int, name api.Name) api.Change {
	return api.Change{Kind: api.ChangeAttr, Node: h, Name: name, Has: true, Value: "v"}
}

func removing(h, parent, index int) api.Change {
	return api.Change{Kind: api.ChangeRemove, Node: h, Parent: parent, Index: index}
}

func telling(parent int) api.Change { return api.Change{Kind: api.ChangeTree, Parent: parent} }

// named has an attribute more at a node.
func named(f api.Forest, h int, name api.Name, value string) api.Forest {
	n := &f.Nodes[h-1]
	n.Attrs = append(n.Attrs, api.Attr{Name: name, Value: value})
	return f
}

// P24.4, Words (a record that a change queues): of each kind of change, for one that wants all, and all that was.
func TestKindsOfChanges(t *testing.T) {
	f := named(sample.Tree(`a(#"xy" b =)`), 2, local("p"), "1")
	f.Nodes = append(f.Nodes, api.Node{Kind: api.KindElement, Name: local("e"), Doc: 1})
	o := every
	o.OldAttr, o.OldData = api.SaidYes, api.SaidYes
	w := watching(t, f, 1, asks{1, 1, o}, asks{1, 6, o})
	for what, x := range map[string]struct {
		c    api.Change
		want string
	}{
		"a node made":          {api.Change{Kind: api.ChangeMake, Node: 7, Made: api.Node{Kind: api.KindText, Doc: 1}}, ""},
		"inserted":             {api.Change{Kind: api.ChangeInsert, Node: 6, Parent: 2}, ""},
		"removed":              {removing(3, 2, 0), ""},
		"adopted":              {api.Change{Kind: api.ChangeAdopt, Node: 6, Doc: 1}, ""},
		"data":                 {api.Change{Kind: api.ChangeData, Node: 3, Offset: 1, Count: 1, Data: api.Units{'z'}}, `3"xy=`},
		"data of none":         {api.Change{Kind: api.ChangeData, Node: 5, Data: api.Units{'z'}}, `5"=`},
		"data, nothing turned": {api.Change{Kind: api.ChangeData, Node: 3, Offset: 2}, `3"xy=`},
		"an attribute":         {setting(2, local("q")), "2[q]"},
		"another value":        {api.Change{Kind: api.ChangeAttr, Node: 2, Name: local("p"), Had: true, Old: "1", Has: true, Value: "2"}, "2[p=1]"},
		"the same value":       {api.Change{Kind: api.ChangeAttr, Node: 2, Name: local("p"), Had: true, Old: "1", Has: true, Value: "1"}, "2[p=1]"},
		"no attribute more":    {api.Change{Kind: api.ChangeAttr, Node: 2, Name: local("p"), Had: true, Old: "1"}, "2[p=1]"},
		"of a namespace":       {setting(4, api.Name{Space: "urn:", Prefix: "u", Local: "p"}), "4[urn:p]"},
		"a shadow root":        {api.Change{Kind: api.ChangeShadow, Node: 2, Other: 7, Made: api.Node{Kind: api.KindShadow, Mode: api.ShadowOpen}}, ""},
		"split":                {api.Change{Kind: api.ChangeSplit, Node: 3, Other: 5, Offset: 1}, ""},
		"merged":               {api.Change{Kind: api.ChangeMerge, Node: 3, Other: 5, Offset: 1}, ""},
		"kids":                 {api.Change{Kind: api.ChangeTree, Parent: 2, Added: []int{4, 3, 4}, Removed: []int{5}, Prev: 3, Next: 1}, "2(+4.3.4-5)3,1"},
		"no kids":              {api.Change{Kind: api.ChangeTree, Parent: 4}, "4(+-)0,0"},
		"kids of none":         {api.Change{Kind: api.ChangeTree, Added: []int{4}}, ""},
		"nodes that are 0":     {api.Change{Kind: api.ChangeTree, Parent: 2, Added: []int{0}, Removed: []int{0, 3}}, "2(+0-0.3)0,0"},
	} {
		v := folded(t, f, w, x.c)
		wantQueues(t, what, v, x.want)
		if x.c.Kind != api.ChangeRemove && (v.Next != w.Next || len(v.Regs) != len(w.Regs)) {
			t.Errorf("%s: the registrations are %s", what, writtenRegs(v))
		}
	}
}

// everyChange is a change of each kind that queues a record, of a node and of a text in it.
func everyChange(h, text int) []api.Change {
	return []api.Change{setting(h, local("n")), {Kind: api.ChangeData, Node: text, Data: api.Units{'z'}}, telling(h)}
}

// Words (a registration is interested): by the kind of the record, at the target itself.
func TestInterestedInKinds(t *testing.T) {
	f := sample.Tree(`a(#"x" b)`)
	no := api.Options{Kids: true, Attrs: api.SaidNo, Data: api.SaidNo, OldAttr: api.SaidNo, OldData: api.SaidNo}
	for what, x := range map[string]struct {
		o    api.Options
		want string
	}{
		"kids":               {kids, "2(+-)0,0"},
		"attributes":         {attrs, "2[n]"},
		"data":               {below(data), `3"`},
		"all":                {every, `2[n] 3" 2(+-)0,0`},
		"attributes, of all": {below(attrs), "2[n]"},
		"no to some":         {below(no), "2(+-)0,0"},
		"old data":           {below(api.Options{OldData: api.SaidYes}), `3"x=`},
		"data, but not old":  {below(api.Options{OldData: api.SaidNo}), `3"`},
		"old attributes":     {api.Options{OldAttr: api.SaidYes}, "2[n]"},
	} {
		wantQueues(t, what, folded(t, f, watching(t, f, 1, asks{1, 2, x.o}), everyChange(2, 3)...), x.want)
	}
	wantQueues(t, "of no changes", folded(t, f, watching(t, f, 1, asks{1, 1, every})), "")
	wantQueues(t, "of no registrations", folded(t, f, watching(t, f, 2), everyChange(2, 3)...), "", "")
}

// Words (a registration is interested): at the target, above it with Subtree and without, below it, beside it, in another tree, and through no shadow root.
func TestInterestedFromWhere(t *testing.T) {
	f := sample.Tree(`a(b(c(#"x") d{e(#"y")} #"z") h) ~(g)`)
	here := api.Options{Kids: true, Attrs: api.SaidYes, Data: api.SaidYes}
	outside, inside := `3[n] 10" 3(+-)0,0`, `8[n] 9" 8(+-)0,0`
	for _, x := range []struct {
		what      string
		node      int
		o         api.Options
		out, into string
	}{
		{"at the target", 3, here, "3[n] 3(+-)0,0", ""},
		{"at the target, and below", 3, every, outside, ""},
		{"at the text", 10, here, `10"`, ""},
		{"at the text, and below", 10, every, `10"`, ""},
		{"at the parent", 2, here, "", ""},
		{"at the parent, and below", 2, every, outside, ""},
		{"at the root", 1, here, "", ""},
		{"at the root, and below", 1, every, outside, ""},
		{"below it", 4, every, "", ""},
		{"further below it", 5, every, "", ""},
		{"beside it", 11, every, "", ""},
		{"at a host below it", 6, every, "", ""},
		{"in a shadow tree below it", 8, every, "", inside},
		{"there, but not below", 8, here, "", "8[n] 8(+-)0,0"},
		{"at a shadow root", 7, here, "", ""},
		{"at a shadow root, and below", 7, every, "", inside},
		{"at another root", 12, every, "", ""},
		{"in another tree", 13, every, "", ""},
	} {
		w := watching(t, f, 1, asks{1, x.node, x.o})
		wantQueues(t, x.what, folded(t, f, w, everyChange(3, 10)...), x.out)
		wantQueues(t, x.what+", in a shadow tree", folded(t, f, w, everyChange(8, 9)...), x.into)
	}
}

// Words (a registration is interested): where nodes stand just ahead of each change.
func TestInterestedMeanwhile(t *testing.T) {
	f := sample.Tree("a(b c)")
	w := watching(t, f, 2, asks{1, 3, every}, asks{2, 4, below(attrs)})
	w = folded(t, f, w,
		setting(4, local("p")), removing(4, 2, 1), setting(4, local("q")),
		api.Change{Kind: api.ChangeInsert, Node: 4, Parent: 3}, setting(4, local("r")), setting(3, local("s")),
	)
	wantQueues(t, "an element that comes into another one", w, "4[r] 3[s]", "4[p] 4[q] 4[r]")
}

// Words (a registration is interested): a filter has the local names of attributes without a namespace.
func TestFilters(t *testing.T) {
	f := sample.Tree("a(b)")
	changes := []api.Change{
		setting(3, local("p")), setting(3, api.Name{Space: "urn:", Local: "p"}), setting(3, local("q")), setting(3, api.Name{Space: "urn:", Local: "r"}), setting(3, local("P")),
		{Kind: api.ChangeTree, Parent: 3},
	}
	for what, x := range map[string]struct {
		o    api.Options
		want string
	}{
		"no filter":         {attrs, "3[p] 3[urn:p] 3[q] 3[urn:r] 3[P]"},
		"of no names":       {api.Options{Filters: true}, ""},
		"of one":            {api.Options{Filters: true, Filter: []string{"p"}}, "3[p]"},
		"of another one":    {api.Options{Filters: true, Filter: []string{"", "r", "q"}}, "3[q]"},
		"of some, twice":    {api.Options{Filters: true, Filter: []string{"q", "p", "q"}}, "3[p] 3[q]"},
		"of kids, too":      {api.Options{Kids: true, Filters: true, Filter: []string{"p"}}, "3[p] 3(+-)0,0"},
		"names, but unset":  {api.Options{Attrs: api.SaidYes, Filter: []string{"p"}}, "3[p] 3[urn:p] 3[q] 3[urn:r] 3[P]"},
		"of a whole, urn:p": {api.Options{Filters: true, Filter: []string{"urn:p"}}, ""},
	} {
		wantQueues(t, what, folded(t, f, watching(t, f, 1, asks{1, 3, x.o}), changes...), x.want)
		wantQueues(t, what+", from above", folded(t, f, watching(t, f, 1, asks{1, 1, below(x.o)}), changes...), x.want)
	}
	long := api.Options{Filters: true, Filter: make([]string, api.MaxList)}
	long.Filter[api.MaxList-1] = "p"
	wantQueues(t, "the last of many", folded(t, f, watching(t, f, 1, asks{1, 3, long}), changes...), "3[p]")
}

// Words (it wants the old one, queueing a record): one of an observer's interested registrations is enough, wherever it stands; another one's wish is none of its.
func TestOldOnes(t *testing.T) {
	f := named(named(sample.Tree(`a(b(#"xy"))`), 3, local("p"), "1"), 3, local("q"), "")
	old := api.Options{OldAttr: api.SaidYes, OldData: api.SaidYes, Subtree: true}
	not := api.Options{Attrs: api.SaidYes, OldAttr: api.SaidNo, Data: api.SaidYes, OldData: api.SaidNo, Subtree: true}
	changes := []api.Change{
		{Kind: api.ChangeAttr, Node: 3, Name: local("p"), Had: true, Old: "1"},
		{Kind: api.ChangeAttr, Node: 3, Name: local("q"), Had: true, Has: true, Value: "z"},
		{Kind: api.ChangeAttr, Node: 3, Name: local("r"), Has: true, Value: "z"},
		{Kind: api.ChangeData, Node: 4, Count: 2}, {Kind: api.ChangeData, Node: 4, Data: api.Units{'w'}},
		telling(3),
	}
	all, none := `3[p=1] 3[q=] 3[r] 4"xy= 4"=`, `3[p] 3[q] 3[r] 4" 4"`
	for what, x := range map[string]struct {
		l    []asks
		want []string
	}{
		"wanted":                    {[]asks{{1, 3, old}}, []string{all, ""}},
		"not wanted":                {[]asks{{1, 3, not}}, []string{none, ""}},
		"not said":                  {[]asks{{1, 3, below(api.Options{Attrs: api.SaidYes, Data: api.SaidYes})}}, []string{none, ""}},
		"wanted further up":         {[]asks{{1, 3, not}, {1, 1, old}}, []string{all, ""}},
		"wanted further down":       {[]asks{{1, 1, not}, {1, 2, not}, {1, 3, old}}, []string{all, ""}},
		"wanted in between":         {[]asks{{1, 1, not}, {1, 2, old}, {1, 3, not}}, []string{all, ""}},
		"wanted by another one":     {[]asks{{1, 3, not}, {2, 3, old}}, []string{none, all}},
		"wanted by one further up":  {[]asks{{2, 1, old}, {1, 3, not}}, []string{none, all}},
		"wanted of attributes":      {[]asks{{1, 3, api.Options{OldAttr: api.SaidYes, Data: api.SaidYes, Subtree: true}}}, []string{`3[p=1] 3[q=] 3[r] 4" 4"`, ""}},
		"wanted of data":            {[]asks{{1, 3, api.Options{OldData: api.SaidYes, Attrs: api.SaidYes, Subtree: true}}}, []string{`3[p] 3[q] 3[r] 4"xy= 4"=`, ""}},
		"wanted of another name":    {[]asks{{1, 3, not}, {1, 2, api.Options{OldAttr: api.SaidYes, Filters: true, Filter: []string{"q"}, Subtree: true}}}, []string{`3[p] 3[q=] 3[r] 4" 4"`, ""}},
		"wanted, but not from here": {[]asks{{1, 3, not}, {1, 2, api.Options{OldAttr: api.SaidYes, OldData: api.SaidYes}}}, []string{none, ""}},
		"wanted of kids, is none":   {[]asks{{1, 3, api.Options{Kids: true, OldData: api.SaidYes}}}, []string{"3(+-)0,0", ""}},
	} {
		wantQueues(t, what, folded(t, f, watching(t, f, 2, x.l...), changes...), x.want...)
	}
}

// Words (queueing a record): each observer once, behind what is queued already; those with nothing to be told have nothing.
func TestQueueing(t *testing.T) {
	f := sample.Tree("a(b(c))")
	w := watching(t, f, 4, asks{3, 1, every}, asks{1, 4, every}, asks{3, 4, every}, asks{2, 2, kids}, asks{1, 2, every}, asks{3, 3, every})
	w.Queues[2] = []api.Record{{Kind: api.RecordData, Target: 9}}
	v := folded(t, f, w, telling(4), telling(2))
	wantQueues(t, "some", v, "4(+-)0,0 2(+-)0,0", "2(+-)0,0", `9" 4(+-)0,0 2(+-)0,0`, "")
	if v.Next != w.Next {
		t.Error("Next:", v.Next)
	}
	wantRegs(t, "some", v, writtenRegs(w))
}

// P24.4: of a removal those registrations more that the words say: from the parent up, at each node by rising Ids.
func TestRemoval(t *testing.T) {
	f := sample.Tree("a(b(c(d)) e)")
	o := api.Options{Filters: true, Filter: []string{"p", "q"}, Subtree: true, OldAttr: api.SaidYes}
	w := watching(t, f, 3, asks{1, 1, kidsBelow}, asks{2, 2, kids}, asks{3, 3, o}, asks{2, 3, kidsBelow}, asks{1, 3, every}, asks{2, 4, every}, asks{2, 5, every}, asks{1, 6, every}, asks{3, 1, kids})
	v := folded(t, f, w, removing(4, 3, 0))
	wantRegs(t, "from b", v, "1:1@1 2:2@2 3:3@3 4:2@3 5:1@3 6:2@4 7:2@5 8:1@6 9:3@1 10:3@4<3 11:2@4<4 12:1@4<5 13:1@4<1")
	if v.Next != 14 {
		t.Error("Next:", v.Next)
	}
	for at, want := range map[int]api.Options{9: w.Regs[2].Options, 10: kidsBelow, 11: every, 12: kidsBelow} {
		if !sample.SameOptions(v.Regs[at].Options, want) {
			t.Error("options:", v.Regs[at])
		}
	}
	wantRegs(t, "from a document that none watches with Subtree", folded(t, f, watching(t, f, 1, asks{1, 1, kids}, asks{1, 2, every}), removing(2, 1, 0)), "1:1@1 2:1@2")
	wantRegs(t, "one by one", folded(t, f, watching(t, f, 1, asks{1, 1, kidsBelow}), removing(6, 2, 1), removing(3, 2, 0), removing(2, 1, 0)), "1:1@1 2:1@6<1 3:1@3<1 4:1@2<1")
	wantRegs(t, "what is within what was removed", folded(t, f, watching(t, f, 1, asks{1, 1, kidsBelow}), removing(3, 2, 0), removing(4, 3, 0), removing(5, 4, 0)), "1:1@1 2:1@3<1 3:1@4<2 4:1@5<3")
	back := api.Change{Kind: api.ChangeInsert, Node: 3, Parent: 2}
	wantRegs(t, "there and back", folded(t, f, watching(t, f, 1, asks{1, 1, kidsBelow}), removing(3, 2, 0), back, removing(3, 2, 0)), "1:1@1 2:1@3<1 3:1@3<1")
	wantRegs(t, "with gaps", folded(t, f, api.Watch{Next: 50, Queues: make([][]api.Record, 1), Regs: []api.Registration{{Id: 7, Observer: 1, Node: 1, Options: kidsBelow, Source: 3}}}, removing(2, 1, 0)), "7:1@1<3 50:1@2<7")
}

// P24.9: what is changed within what was removed is told, once, until the observer is notified.
func TestWithinWhatWasRemoved(t *testing.T) {
	f := sample.Tree(`a(b(c(#"x")) d)`)
	w := watching(t, f, 2, asks{1, 1, every}, asks{1, 2, every}, asks{2, 1, api.Options{Kids: true, Attrs: api.SaidYes, Data: api.SaidYes}})
	changes := []api.Change{removing(3, 2, 0), telling(2), setting(3, local("p")), {Kind: api.ChangeData, Node: 5, Count: 1}, removing(4, 3, 0), telling(3), telling(4)}
	w = folded(t, f, w, changes...)
	wantQueues(t, "removed", w, `2(+-)0,0 3[p] 5" 3(+-)0,0 4(+-)0,0`, "")
	wantRegs(t, "removed", w, "1:1@1 2:1@2 3:2@1 4:1@3<2 5:1@3<1 6:1@4<4 7:1@4<5")
	g, _, why := forest.All(f, changes)
	if why != api.OK {
		t.Fatal(why)
	}
	after := folded(t, g, w, setting(4, local("q")), setting(2, local("r")))
	wantQueues(t, "in another call", after, `2(+-)0,0 3[p] 5" 3(+-)0,0 4(+-)0,0 4[q] 2[r]`, "")
	taken, _, _ := observe.Take(w, 1)
	wantQueues(t, "taken, but not notified", folded(t, g, taken, setting(4, local("q")), setting(2, local("r"))), "4[q] 2[r]", "")
	w, _, _ = observe.Notify(w)
	wantQueues(t, "notified", folded(t, g, w, setting(4, local("q")), setting(2, local("r"))), "2[r]", "")
}

// P24.4: MaxRecords in each queue, and no more; of others it is no matter.
func TestMaxRecords(t *testing.T) {
	f := sample.Tree("a(b)")
	w := watching(t, f, 3, asks{1, 2, kids}, asks{2, 3, kids}, asks{3, 2, attrs})
	for i, n := range []int{api.MaxRecords - 1, api.MaxRecords, api.MaxRecords} {
		w.Queues[i] = make([]api.Record, n)
	}
	v := folded(t, f, w, telling(2))
	if len(v.Queues[0]) != api.MaxRecords || len(v.Queues[1]) != api.MaxRecords || written(v.Queues[0][api.MaxRecords-1:]) != "2(+-)0,0" {
		t.Error("the last one:", len(v.Queues[0]), len(v.Queues[1]))
	}
	for what, l := range map[string][]api.Change{
		"one more":           {telling(2), telling(2)},
		"of a full queue":    {telling(3)},
		"of another one":     {setting(2, local("p"))},
		"behind what is not": {setting(3, local("p")), removing(3, 2, 0), telling(2), telling(2)},
	} {
		if v, why := observe.Fold(f, w, l); why != api.ErrMany || !sample.SameWatch(v, api.Watch{}) {
			t.Errorf("%s: error %d", what, why)
		}
	}
	full := watching(t, f, 1, asks{1, 1, every})
	l := slices.Repeat([]api.Change{telling(3)}, api.MaxList)
	if v := folded(t, f, full, l...); len(v.Queues[0]) != api.MaxRecords {
		t.Error("all at once:", len(v.Queues[0]))
	}
}

// P24.4: MaxRegs registrations, and no Id beyond MaxRegIds - 1.
func TestMaxRegs(t *testing.T) {
	f := sample.Tree("a(b)")
	for less, want := range map[int]api.Errno{0: api.ErrMany, 1: api.ErrMany, 2: api.OK, 3: api.OK} {
		w := fullOfRegs()
		w.Regs = w.Regs[:api.MaxRegs-less]
		for i := range w.Regs {
			w.Regs[i].Options, w.Regs[i].Node, w.Regs[i].Source = kids, 3, i
		}
		w.Regs[0].Node, w.Regs[0].Options = 1, kidsBelow
		w.Regs[1].Node, w.Regs[1].Options, w.Regs[1].Source = 2, kidsBelow, 0
		v, why := observe.Fold(f, w, []api.Change{removing(3, 2, 0)})
		if why != want || why == api.OK && (len(v.Regs) != api.MaxRegs-less+2 || v.Next != w.Next+2) || why != api.OK && !sample.SameWatch(v, api.Watch{}) {
			t.Errorf("%d less: %d registrations, error %d", less, len(v.Regs), why)
		}
		w.Regs[0].Options = kids
		if v, why := observe.Fold(f, w, []api.Change{removing(3, 2, 0)}); (why == api.OK) != (less > 0) || why == api.OK && len(v.Regs) != api.MaxRegs-less+1 {
			t.Errorf("%d less, of one: %d registrations, error %d", less, len(v.Regs), why)
		}
	}
	for next, want := range map[int]api.Errno{api.MaxRegIds: api.ErrMany, api.MaxRegIds - 1: api.ErrMany, api.MaxRegIds - 2: api.OK} {
		w := watching(t, f, 1, asks{1, 1, kidsBelow}, asks{1, 2, kidsBelow})
		w.Next = next
		v, why := observe.Fold(f, w, []api.Change{removing(3, 2, 0)})
		if why != want || why == api.OK && (v.Next != api.MaxRegIds || v.Regs[3].Id != api.MaxRegIds-1) || why != api.OK && !sample.SameWatch(v, api.Watch{}) {
			t.Errorf("from %d on: %s, error %d", next, writtenRegs(v), why)
		}
		if _, why := observe.Fold(f, w, []api.Change{telling(2), telling(3)}); why != api.OK {
			t.Errorf("from %d on, without a removal: error %d", next, why)
		}
	}
}

// The greatest that may be handed in is gone through in no long time: as many registrations with the longest filters above a deep node, and as many changes there.
func TestGreatest(t *testing.T) {
	f := sample.Deep(api.MaxNodes)
	long := make([]string, api.MaxList)
	for i := range long {
		long[i] = "name-" + strconv.Itoa(i)
	}
	w := api.Watch{Next: api.MaxRegs + 1, Queues: make([][]api.Record, api.MaxObservers)}
	for i := range api.MaxRegs {
		o := api.Options{Attrs: api.SaidYes, Subtree: true, Filters: true, Filter: long[:api.MaxList-i%2]}
		w.Regs = append(w.Regs, api.Registration{Id: i + 1, Observer: i%api.MaxObservers + 1, Node: i/api.MaxObservers + 1, Options: o})
	}
	var l []api.Change
	for i := range api.MaxList / 2 {
		name := local("other-" + strconv.Itoa(i))
		l = append(l, setting(api.MaxNodes, name), api.Change{Kind: api.ChangeAttr, Node: api.MaxNodes, Name: name, Had: true, Old: "v"})
	}
	l[api.MaxList-1].Name, l[api.MaxList-2].Name = local("name-4095"), local("name-4095")
	v := folded(t, f, w, l...)
	for i, queue := range v.Queues {
		if want := (i + 1) % 2 * 2; len(queue) != want {
			t.Fatalf("the observer %d has %d records", i+1, len(queue))
		}
	}
}
