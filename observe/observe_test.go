package observe_test

import (
	"fmt"
	"slices"
	"strings"
	"testing"

	"canopy/api"
	"canopy/observe"
	"canopy/sample"
)

// Options that many tests ask for.
var (
	kids      = api.Options{Kids: true}
	kidsBelow = api.Options{Kids: true, Subtree: true}
	attrs     = api.Options{Attrs: api.SaidYes}
	data      = api.Options{Data: api.SaidYes}
	every     = api.Options{Kids: true, Subtree: true, Attrs: api.SaidYes, Data: api.SaidYes}
)

func below(o api.Options) api.Options {
	o.Subtree = true
	return o
}

func dots(l []int) string { return strings.Trim(strings.ReplaceAll(fmt.Sprint(l), " ", "."), "[]") }

// writtenRegs has of each registration its Id, its Observer, its Node, and its Source, if that is not 0.
func writtenRegs(w api.Watch) string {
	var words []string
	for _, r := range w.Regs {
		word := fmt.Sprintf("%d:%d@%d", r.Id, r.Observer, r.Node)
		if r.Source != 0 {
			word += fmt.Sprintf("<%d", r.Source)
		}
		words = append(words, word)
	}
	return strings.Join(words, " ")
}

// written has of each record its target and kind, and what the kind has; the old one behind =.
func written(l []api.Record) string {
	var words []string
	for _, r := range l {
		switch r.Kind {
		case api.RecordAttr:
			word := fmt.Sprintf("%d[%s%s", r.Target, r.Space, r.Local)
			if r.Has {
				word += "=" + r.Old
			}
			words = append(words, word+"]")
		case api.RecordData:
			word := fmt.Sprintf("%d\"", r.Target)
			for _, u := range r.OldData {
				word += string(rune(u))
			}
			if r.Has {
				word += "="
			}
			words = append(words, word)
		case api.RecordTree:
			words = append(words, fmt.Sprintf("%d(%s+%s-%s)%d,%d", r.Target, map[bool]string{true: "="}[r.Has], dots(r.Added), dots(r.Removed), r.Prev, r.Next))
		default:
			words = append(words, fmt.Sprint(r))
		}
	}
	return strings.Join(words, " ")
}

// asks is what an observer watches.
type asks struct {
	observer, node int
	options        api.Options
}

// watching is a watch of so many observers that asked one behind the other.
func watching(t *testing.T, f api.Forest, observers int, l ...asks) api.Watch {
	t.Helper()
	w := api.Watch{Queues: make([][]api.Record, observers)}
	for _, a := range l {
		w = observed(t, f, w, a)
	}
	return w
}

func observed(t *testing.T, f api.Forest, w api.Watch, a asks) api.Watch {
	t.Helper()
	v, why := observe.Observe(f, w, a.observer, a.node, a.options)
	if why != api.OK {
		t.Fatalf("Observe %v: error %d", a, why)
	}
	return v
}

func folded(t *testing.T, f api.Forest, w api.Watch, l ...api.Change) api.Watch {
	t.Helper()
	v, why := observe.Fold(f, w, l)
	if why != api.OK {
		t.Fatalf("Fold of %v: error %d", l, why)
	}
	return v
}

func wantRegs(t *testing.T, what string, w api.Watch, want string) {
	t.Helper()
	if got := writtenRegs(w); got != want {
		t.Errorf("%s: the registrations are %s; want %s", what, got, want)
	}
}

// wantQueues holds the queues of all observers against texts.
func wantQueues(t *testing.T, what string, w api.Watch, want ...string) {
	t.Helper()
	var got []string
	for _, queue := range w.Queues {
		got = append(got, written(queue))
	}
	if !slices.Equal(got, want) {
		t.Errorf("%s: queued are %q; want %q", what, got, want)
	}
}

// regs are registrations at the node 2, each of an observer of its own, with these Ids.
func regs(next int, ids ...int) api.Watch {
	w := api.Watch{Next: next}
	for i, id := range ids {
		w.Regs = append(w.Regs, api.Registration{Id: id, Observer: i + 1, Node: 2, Options: kids})
		w.Queues = append(w.Queues, nil)
	}
	return w
}

// fullOfRegs is a watch of as many registrations as may be: each observer's at each of the first four nodes.
func fullOfRegs() api.Watch {
	w := api.Watch{Next: api.MaxRegs + 1, Queues: make([][]api.Record, api.MaxObservers)}
	for i := range api.MaxRegs {
		w.Regs = append(w.Regs, api.Registration{Id: i + 1, Observer: i%api.MaxObservers + 1, Node: i/api.MaxObservers + 1, Options: kidsBelow})
	}
	return w
}

// Example 1 of the chapter.
func TestFirstExample(t *testing.T) {
	f := sample.Tree(`a(#"x" b)`)
	w, n, why := observe.New(api.Watch{})
	if why != api.OK || n != 1 {
		t.Fatal("New:", n, why)
	}
	w = observed(t, f, w, asks{n, 1, kidsBelow})
	w = folded(t, f, w,
		api.Change{Kind: api.ChangeRemove, Node: 2, Parent: 1}, api.Change{Kind: api.ChangeTree, Parent: 1, Removed: []int{2}},
		api.Change{Kind: api.ChangeRemove, Node: 3, Parent: 2}, api.Change{Kind: api.ChangeTree, Parent: 2, Removed: []int{3}, Next: 4},
	)
	wantQueues(t, "both removed", w, "1(+-2)0,0 2(+-3)0,4")
	wantRegs(t, "both removed", w, "1:1@1 2:1@2<1 3:1@3<2")
	w, l, why := observe.Notify(w)
	if why != api.OK || len(l) != 1 || l[0].Observer != 1 || written(l[0].Records) != "1(+-2)0,0 2(+-3)0,4" {
		t.Error("Notify:", l, why)
	}
	wantQueues(t, "notified", w, "")
	wantRegs(t, "notified", w, "1:1@1")
}

// Example 2 of the chapter.
func TestSecondExample(t *testing.T) {
	want := api.Options{Attrs: api.SaidYes, OldAttr: api.SaidYes}
	if o, why := observe.Settle(api.Options{OldAttr: api.SaidYes}); why != api.OK || !sample.SameOptions(o, want) {
		t.Error("OldAttr alone:", o, why)
	}
	if o, why := observe.Settle(api.Options{Subtree: true}); why != api.ErrType || !sample.SameOptions(o, api.Options{}) {
		t.Error("Subtree alone:", o, why)
	}
}

// P24.1, Words (a watch is right): at each edge, in a forest and by itself.
func TestRight(t *testing.T) {
	f := sample.Tree("a(b c)")
	full := make([][]api.Record, api.MaxObservers)
	full[0], full[api.MaxObservers-1] = make([]api.Record, api.MaxRecords), make([]api.Record, api.MaxRecords)
	twice := regs(9, 1, 2, 3)
	twice.Regs[1].Observer, twice.Regs[1].Source = 1, 1
	twice.Regs[2].Observer, twice.Regs[2].Source = 1, 1
	for what, w := range map[string]api.Watch{
		"none at all":                 {},
		"empty lists":                 {Regs: []api.Registration{}, Queues: [][]api.Record{}},
		"none, Next 1":                {Next: 1},
		"none, Next MaxRegIds":        {Next: api.MaxRegIds},
		"observers alone":             {Queues: make([][]api.Record, 3)},
		"as many observers as may be": {Queues: full},
		"records of any kind":         {Queues: [][]api.Record{{{}, {Kind: 99, Target: -7, Added: []int{-1}, OldData: api.Units{1}}}}},
		"the first Id":                regs(2, 1),
		"Ids with gaps":               regs(12, 2, 5, 9),
		"the last Id":                 regs(api.MaxRegIds, 1, api.MaxRegIds-1),
		"as many as may be":           fullOfRegs(),
		"the last node":               {Next: 2, Queues: full[:1], Regs: []api.Registration{{Id: 1, Observer: 1, Node: 4, Options: kids}}},
		"a Source":                    {Next: 9, Queues: full[:1], Regs: []api.Registration{{Id: 7, Observer: 1, Node: 1, Options: kids, Source: 6}}},
		"two of one observer":         {Next: 9, Queues: full[:1], Regs: []api.Registration{{Id: 1, Observer: 1, Node: 1, Options: kids}, {Id: 2, Observer: 1, Node: 2, Options: kids}}},
		"two with one Source":         twice,
		"options that say no": {Next: 9, Queues: full[:1], Regs: []api.Registration{{Id: 1, Observer: 1, Node: 1, Options: api.Options{
			Kids: true, Attrs: api.SaidNo, OldAttr: api.SaidNo, Data: api.SaidNo, OldData: api.SaidNo}}}},
		"an empty filter": {Next: 9, Queues: full[:1], Regs: []api.Registration{{Id: 1, Observer: 1, Node: 1, Options: api.Options{
			Attrs: api.SaidYes, Filters: true}}}},
		"no filter, an empty list": {Next: 9, Queues: full[:1], Regs: []api.Registration{{Id: 1, Observer: 1, Node: 1, Options: api.Options{
			Attrs: api.SaidYes, Filter: []string{}}}}},
		"the longest filter": {Next: 9, Queues: full[:1], Regs: []api.Registration{{Id: 1, Observer: 1, Node: 1, Options: api.Options{
			Attrs: api.SaidYes, Filters: true, Filter: make([]string, api.MaxList)}}}},
	} {
		if why := observe.Check(f, w); why != api.OK {
			t.Errorf("%s: error %d", what, why)
		}
		if _, _, why := observe.Notify(w); why != api.OK {
			t.Errorf("%s: by itself: error %d", what, why)
		}
	}
	far := regs(2, 1)
	far.Regs[0].Node = 1 << 60
	if why := observe.Check(f, far); why != api.ErrState {
		t.Error("a node beyond:", why)
	}
	for what, why := range errorsAlone(far, 1) {
		if why != api.OK {
			t.Errorf("a node beyond, by itself: %s: error %d", what, why)
		}
	}
}

// P24.1: an observer more, behind the others, with nothing queued.
func TestNew(t *testing.T) {
	d := sample.NewDice(5)
	f := sample.Thick(d, 9)
	for _, w := range []api.Watch{{}, {Next: 1}, {Queues: make([][]api.Record, 2)}, sample.Watch(d, f, 4, 12), {Queues: make([][]api.Record, api.MaxObservers-1)}} {
		want := sample.CopyWatch(w)
		want.Queues = append(want.Queues, nil)
		v, n, why := observe.New(w)
		if why != api.OK || n != len(w.Queues)+1 || !sample.SameWatch(v, want) {
			t.Errorf("%v: %v, %d, error %d", w, v, n, why)
		}
	}
}

// P24.2: one registration more, with the Id Next.
func TestObserve(t *testing.T) {
	f := sample.Tree("a(b c)")
	w := watching(t, f, 2, asks{2, 3, kids}, asks{1, 3, attrs}, asks{2, 1, data})
	wantRegs(t, "of none at all", w, "1:2@3 2:1@3 3:2@1")
	if w.Next != 4 || len(w.Queues) != 2 {
		t.Error(w)
	}
	w.Next = 9
	w = observed(t, f, w, asks{1, 4, api.Options{OldAttr: api.SaidNo}})
	wantRegs(t, "Next is ahead", w, "1:2@3 2:1@3 3:2@1 9:1@4")
	want := api.Options{Attrs: api.SaidYes, OldAttr: api.SaidNo}
	if w.Next != 10 || !sample.SameOptions(w.Regs[3].Options, want) {
		t.Error("settled:", w.Next, w.Regs[3])
	}
	one := watching(t, f, 1)
	one.Next = 1
	one = observed(t, f, one, asks{1, 1, kids})
	wantRegs(t, "Next 1", one, "1:1@1")
	one.Next = api.MaxRegIds - 1
	one = observed(t, f, one, asks{1, 2, kids})
	if one.Next != api.MaxRegIds || one.Regs[1].Id != api.MaxRegIds-1 {
		t.Error("the last Id:", one)
	}
}

// P24.2: a node that is observed already has other options, and those that came of it are gone.
func TestObserveAgain(t *testing.T) {
	f := sample.Tree("a(b c)")
	w := api.Watch{Next: 20, Queues: [][]api.Record{{{Kind: api.RecordAttr, Target: 2}}, nil}}
	for _, r := range [][4]int{{2, 1, 2, 0}, {3, 1, 3, 2}, {4, 2, 2, 0}, {5, 2, 3, 4}, {6, 1, 2, 2}, {7, 2, 4, 2}, {8, 1, 4, 3}, {9, 1, 3, 0}, {10, 1, 2, 4}} {
		w.Regs = append(w.Regs, api.Registration{Id: r[0], Observer: r[1], Node: r[2], Source: r[3], Options: kids})
	}
	v := observed(t, f, w, asks{1, 2, api.Options{Filters: true, Filter: []string{"x", "x"}}})
	wantRegs(t, "of the first one", v, "2:1@2 4:2@2 5:2@3<4 8:1@4<3 9:1@3 10:1@2<4")
	want := api.Options{Attrs: api.SaidYes, Filters: true, Filter: []string{"x", "x"}}
	if v.Next != 20 || !sample.SameOptions(v.Regs[0].Options, want) || written(v.Queues[0]) != "2[]" {
		t.Error("of the first one:", v)
	}
	for _, r := range v.Regs[1:] {
		if !sample.SameOptions(r.Options, kids) {
			t.Error("others are turned:", r)
		}
	}
	v = observed(t, f, w, asks{2, 2, attrs})
	wantRegs(t, "of the other one", v, "2:1@2 3:1@3<2 4:2@2 6:1@2<2 7:2@4<2 8:1@4<3 9:1@3")
	v = observed(t, f, w, asks{2, 3, attrs})
	wantRegs(t, "where only one with a Source is", v, "2:1@2 3:1@3<2 4:2@2 5:2@3<4 6:1@2<2 7:2@4<2 8:1@4<3 9:1@3 10:1@2<4 20:2@3")
	full := fullOfRegs()
	full.Next = api.MaxRegIds
	v = observed(t, f, full, asks{3, 2, data})
	if len(v.Regs) != api.MaxRegs || v.Next != api.MaxRegIds || !sample.SameOptions(v.Regs[api.MaxObservers+2].Options, data) {
		t.Error("of as many as may be:", len(v.Regs), v.Next)
	}
}

// P24.3: an observer that observes nothing any more, and is handed nothing.
func TestDisconnect(t *testing.T) {
	w := api.Watch{Next: 9, Queues: [][]api.Record{{{Kind: api.RecordData, Target: 1}}, {{Kind: api.RecordData, Target: 2}}, nil}}
	for _, r := range [][4]int{{1, 1, 2, 0}, {2, 2, 2, 0}, {3, 1, 3, 1}, {4, 2, 3, 1}, {5, 2, 4, 2}} {
		w.Regs = append(w.Regs, api.Registration{Id: r[0], Observer: r[1], Node: r[2], Source: r[3], Options: kids})
	}
	for observer, want := range map[int]struct {
		regs   string
		queues []string
	}{
		1: {"2:2@2 4:2@3<1 5:2@4<2", []string{"", `2"`, ""}},
		2: {"1:1@2 3:1@3<1", []string{`1"`, "", ""}},
		3: {"1:1@2 2:2@2 3:1@3<1 4:2@3<1 5:2@4<2", []string{`1"`, `2"`, ""}},
	} {
		v, why := observe.Disconnect(w, observer)
		if why != api.OK || v.Next != 9 {
			t.Error("Disconnect:", observer, v.Next, why)
		}
		wantRegs(t, "disconnected", v, want.regs)
		wantQueues(t, "disconnected", v, want.queues...)
	}
	if v, why := observe.Disconnect(api.Watch{Queues: make([][]api.Record, 1)}, 1); why != api.OK || len(v.Queues) != 1 || len(v.Regs) != 0 {
		t.Error("of no registrations:", v, why)
	}
}

// P24.3: an observer's records, taken; all else stays.
func TestTake(t *testing.T) {
	some := []api.Record{{Kind: api.RecordTree, Target: 1, Added: []int{2}}, {Kind: api.RecordData, Target: 3, Has: true, OldData: api.Units{'a'}}}
	w := regs(9, 3, 5, 7)
	w.Regs[0].Source, w.Regs[1].Source = 2, 2
	w.Queues = [][]api.Record{some, nil, some[1:]}
	for observer, want := range map[int]string{1: `1(+2-)0,0 3"a=`, 2: "", 3: `3"a=`} {
		left := sample.CopyWatch(w)
		left.Queues[observer-1] = nil
		v, l, why := observe.Take(w, observer)
		if why != api.OK || written(l) != want || !sample.SameWatch(v, left) {
			t.Errorf("Take(%d): %s, error %d: %v", observer, written(l), why, v)
		}
	}
}

// P24.3: all that have something are handed it, by their numbers; of these no registration has a Source any more.
func TestNotify(t *testing.T) {
	w := api.Watch{Next: 30, Queues: [][]api.Record{nil, {{Kind: api.RecordData, Target: 2}, {Kind: api.RecordData, Target: 1}}, nil, {{Kind: api.RecordAttr, Target: 9}}}}
	for _, r := range [][4]int{{1, 4, 1, 0}, {2, 1, 1, 0}, {3, 2, 1, 0}, {4, 1, 2, 2}, {5, 2, 2, 3}, {6, 4, 2, 3}, {7, 2, 2, 0}, {8, 2, 2, 5}, {9, 3, 1, 8}} {
		w.Regs = append(w.Regs, api.Registration{Id: r[0], Observer: r[1], Node: r[2], Source: r[3], Options: kids})
	}
	v, l, why := observe.Notify(w)
	if why != api.OK || len(l) != 2 || l[0].Observer != 2 || written(l[0].Records) != `2" 1"` || l[1].Observer != 4 || written(l[1].Records) != "9[]" {
		t.Error("Notify:", l, why)
	}
	wantRegs(t, "notified", v, "1:4@1 2:1@1 3:2@1 4:1@2<2 7:2@2 9:3@1<8")
	wantQueues(t, "notified", v, "", "", "", "")
	if v.Next != 30 {
		t.Error("Next:", v.Next)
	}
	again, l, why := observe.Notify(v)
	if why != api.OK || len(l) != 0 || !sample.SameWatch(again, v) {
		t.Error("once more:", l, why)
	}
	if v, l, why := observe.Notify(api.Watch{}); why != api.OK || len(l) != 0 || !sample.SameWatch(v, api.Watch{}) {
		t.Error("of none at all:", v, l, why)
	}
}
