package react_test

import (
	"math"
	"testing"

	"canopy/api"
	"canopy/react"
	"canopy/sample"
)

func zero(s api.Reacts) bool {
	return s.Queues == nil && s.Stack == nil && s.Backup == nil && !s.Busy
}

// beside is an error, or one that there is not, if something else is answered beside it.
func beside(why api.Errno, nothing bool) api.Errno {
	if why != api.OK && !nothing {
		return 99
	}
	return why
}

// errorsAlone are the errors of all calls that are handed neither forest nor registry.
func errorsAlone(s api.Reacts, l []int) map[string]api.Errno {
	pushed, pushWhy := react.Push(s)
	popped, list, popWhy := react.Pop(s)
	taken, rest, r, is, takeWhy := react.Take(s, l)
	backed, q, more, backupWhy := react.Backup(s)
	return map[string]api.Errno{
		"Check":  react.Check(s),
		"Push":   beside(pushWhy, zero(pushed)),
		"Pop":    beside(popWhy, zero(popped) && list == nil),
		"Take":   beside(takeWhy, zero(taken) && rest == nil && r == (api.Reaction{}) && !is),
		"Backup": beside(backupWhy, zero(backed) && q == (api.Reaction{}) && !more),
	}
}

func errorOfTell(s api.Reacts, reg api.Registry, r api.Reaction) api.Errno {
	told, seen, why := react.Tell(s, reg, r)
	return beside(why, zero(told) && !seen)
}

// errorsOf are the errors of the calls that are handed an element of a forest.
func errorsOf(f api.Forest, s api.Reacts, reg api.Registry, h int) map[string]api.Errno {
	tried, trySeen, tryWhy := react.Try(f, s, reg, h)
	started, startSeen, startWhy := react.Started(f, s, reg, h)
	return map[string]api.Errno{"Try": beside(tryWhy, zero(tried) && !trySeen), "Started": beside(startWhy, zero(started) && !startSeen)}
}

func errorOfFold(f api.Forest, s api.Reacts, reg api.Registry, l ...api.Change) api.Errno {
	folded, seen, why := react.Fold(f, s, reg, l)
	return beside(why, zero(folded) && !seen)
}

// errorsIn are the errors of all calls that are handed a forest, with arguments of which each may be wrong, too.
func errorsIn(f api.Forest, s api.Reacts, reg api.Registry, h int) map[string]api.Errno {
	all := errorsOf(f, s, reg, h)
	all["Fold"] = errorOfFold(f, s, reg)
	all["Fold of what can't be done"] = errorOfFold(f, s, reg, api.Change{Kind: 99, Node: h})
	all["Fold of too many"] = errorOfFold(f, s, reg, make([]api.Change, api.MaxList+1)...)
	return all
}

func wantAll(t *testing.T, what string, got map[string]api.Errno, want api.Errno) {
	t.Helper()
	for call, why := range got {
		if why != want {
			t.Errorf("%s: %s: error %d; want %d", what, call, why, want)
		}
	}
}

// queued has one reaction turned, in the second of three queues.
func queued(turn func(q *api.ReactQueue)) api.Reacts {
	s := api.Reacts{Queues: []api.ReactQueue{queue(7, 1), queue(2, 2), queue(3, 1)}}
	turn(&s.Queues[1])
	return s
}

// notRight are reactions that are not right, each for one reason.
func notRight() map[string]api.Reacts {
	var single api.Reacts
	for i := range api.MaxReactions + 1 {
		single.Queues = append(single.Queues, queue(i+1, 1))
	}
	return map[string]api.Reacts{
		"an element twice":          queued(func(q *api.ReactQueue) { *q = queue(7, 1) }),
		"an Element of 0":           queued(func(q *api.ReactQueue) { *q = queue(0, 1) }),
		"an Element below 0":        queued(func(q *api.ReactQueue) { *q = queue(-1, 1) }),
		"the least Element":         queued(func(q *api.ReactQueue) { *q = queue(math.MinInt, 1) }),
		"an empty List":             queued(func(q *api.ReactQueue) { q.List = nil }),
		"a List of another Element": queued(func(q *api.ReactQueue) { q.List[1].Element = 3 }),
		"a List of no Element":      queued(func(q *api.ReactQueue) { q.List[0].Element = 0 }),
		"no kind":                   queued(func(q *api.ReactQueue) { q.List[1].Kind = api.ReactNone }),
		"a kind that is none":       queued(func(q *api.ReactQueue) { q.List[0].Kind = api.ReactCount }),
		"a kind far from one":       queued(func(q *api.ReactQueue) { q.List[0].Kind = 255 }),
		"too many of one":           {Queues: []api.ReactQueue{queue(1, api.MaxReactions+1)}},
		"too many of two":           {Queues: []api.ReactQueue{queue(1, api.MaxReactions), queue(2, 1)}},
		"too many of many":          single,
		"too many lists":            {Stack: make([][]int, api.MaxStack+1)},
		"too many in a list":        {Stack: lists(nil, numbers(api.MaxReactions+1, 1), nil)},
		"too many in Backup":        {Backup: numbers(api.MaxReactions+1, 1)},
		"a 0 in a list":             {Stack: lists([]int{1, 2}, []int{1, 0, 2})},
		"below 0 in a list":         {Stack: lists([]int{-1})},
		"a 0 in Backup":             {Backup: []int{0}},
		"below 0 in Backup":         {Backup: []int{3, math.MinInt}, Busy: true},
	}
}

// badRegistry is one that is not right.
func badRegistry() api.Registry { return api.Registry{Elements: []api.Custom{{Node: 0}}} }

// P26.1: reactions that are not right are refused by each call, ahead of all but a forest that is not.
func TestNotRight(t *testing.T) {
	f := sample.Cast("a(x u)")
	for what, s := range notRight() {
		was := sample.CopyReacts(s)
		wantAll(t, what, errorsAlone(s, []int{2}), api.ErrState)
		wantAll(t, what, errorsAlone(s, numbers(api.MaxReactions+1, 2)), api.ErrState)
		for _, reg := range []api.Registry{registry(), badRegistry()} {
			for _, r := range []api.Reaction{{Element: 2, Kind: api.ReactConnected}, {}, {Element: 1}} {
				if why := errorOfTell(s, reg, r); why != api.ErrState {
					t.Errorf("%s: Tell(%v): error %d", what, r, why)
				}
			}
			for _, h := range []int{3, 1, 0, -1, 99} {
				wantAll(t, what, errorsIn(f, s, reg, h), api.ErrState)
			}
			wantAll(t, what, errorsIn(sample.Torn()[0], s, reg, 2), api.ErrForest)
		}
		if !sample.SameReacts(s, was) {
			t.Errorf("%s: what was handed in is changed", what)
		}
	}
}

// P26.1: a forest that is not right is refused ahead of all else; a registry that is not, ahead of all but that and the reactions.
func TestFirstErrors(t *testing.T) {
	for _, torn := range sample.Torn() {
		wantAll(t, "torn", errorsIn(torn, api.Reacts{}, registry(), 2), api.ErrForest)
		wantAll(t, "torn, and more", errorsIn(torn, api.Reacts{Backup: []int{0}}, badRegistry(), -1), api.ErrForest)
	}
	f := sample.Cast("a(x u)")
	for what, reg := range map[string]api.Registry{
		"an element of no node":    badRegistry(),
		"a definition of no name":  {Definitions: []api.Definition{{Constructor: 1}}},
		"custom of no definition":  {Elements: []api.Custom{{Node: 3, State: api.StateCustom, Definition: "x-a"}}},
		"too many definitions":     {Definitions: make([]api.Definition, api.MaxDefinitions+1)},
		"two of one name":          {Definitions: []api.Definition{{Name: "x-a", Local: "x-a", Constructor: 1}, {Name: "x-a", Local: "x-a", Constructor: 2}}},
		"an Observed twice":        {Definitions: []api.Definition{{Name: "x-a", Local: "x-a", Constructor: 1, Observed: []string{"a", "a"}}}},
		"elements that don't rise": {Elements: []api.Custom{{Node: 3}, {Node: 3}}},
	} {
		for _, s := range []api.Reacts{{}, {Stack: make([][]int, api.MaxStack)}, {Backup: numbers(api.MaxReactions, 1)}} {
			for _, h := range []int{3, 1, 0, -1, 99} {
				wantAll(t, what, errorsIn(f, s, reg, h), api.ErrRange)
			}
			for _, r := range []api.Reaction{{Element: 3, Kind: api.ReactConnected}, {Element: 3}, {}} {
				if why := errorOfTell(s, reg, r); why != api.ErrRange {
					t.Errorf("%s: Tell(%v): error %d", what, r, why)
				}
			}
		}
	}
}

// P26.3: why an element is not told: first that there is none, then that there is nothing to tell, then that there is no room.
func TestTellErrors(t *testing.T) {
	full := api.Reacts{Queues: []api.ReactQueue{queue(9, api.MaxReactions)}}
	for _, s := range []api.Reacts{{}, full} {
		for _, x := range []struct {
			h    int
			kind api.ReactionKind
			want api.Errno
		}{
			{0, api.ReactConnected, api.ErrRange}, {-1, api.ReactChanged, api.ErrRange}, {math.MinInt, api.ReactAdopted, api.ErrRange},
			{0, api.ReactNone, api.ErrRange}, {-1, api.ReactCount, api.ErrRange},
			{2, api.ReactNone, api.ErrType}, {2, api.ReactUpgrade, api.ErrType}, {2, api.ReactCount, api.ErrType}, {2, 255, api.ErrType}, {9, api.ReactUpgrade, api.ErrType},
		} {
			if why := errorOfTell(s, registry(), api.Reaction{Element: x.h, Kind: x.kind, Local: "p"}); why != x.want {
				t.Errorf("Tell of %d, %d: error %d; want %d", x.h, x.kind, why, x.want)
			}
		}
	}
	for k := api.ReactConnected; k <= api.ReactChanged; k++ {
		if why := errorOfTell(full, registry(), api.Reaction{Element: 2, Kind: k, Local: "p"}); why != api.ErrMany {
			t.Errorf("no room: error %d", why)
		}
	}
}

// P26.3: why an element is not upgraded, and not told that it is being so.
func TestElementErrors(t *testing.T) {
	f := sample.Cast("x(u z v x # -) ~")
	full := api.Reacts{Queues: []api.ReactQueue{queue(9, api.MaxReactions)}}
	for _, s := range []api.Reacts{{}, full} {
		for _, h := range []int{0, -1, 10, math.MaxInt, math.MinInt} {
			wantAll(t, "no node", errorsOf(f, s, registry(), h), api.ErrRange)
		}
		for _, h := range []int{1, 7, 8, 9} {
			wantAll(t, "no element", errorsOf(f, s, registry(), h), api.ErrType)
		}
	}
	bare := api.Registry{Definitions: registry().Definitions, Elements: []api.Custom{{Node: 5}, {Node: 6, State: api.StateUndefined}}}
	for _, h := range []int{2, 5, 6} {
		for _, s := range []api.Reacts{{}, full} {
			if started, seen, why := react.Started(f, s, bare, h); why != api.ErrState || seen || !zero(started) {
				t.Errorf("Started(%d): error %d", h, why)
			}
		}
	}
	reg := api.Registry{Definitions: registry().Definitions, Elements: []api.Custom{{Node: 1, State: api.StateCustom, Definition: "x-a"}, {Node: 99, State: api.StateCustom, Definition: "x-a"}}}
	wantAll(t, "a document that is among the elements", errorsOf(f, api.Reacts{}, reg, 1), api.ErrType)
	wantAll(t, "no node that is among the elements", errorsOf(f, api.Reacts{}, reg, 99), api.ErrRange)
	wantAll(t, "of no nodes", errorsOf(api.Forest{}, api.Reacts{}, reg, 1), api.ErrRange)
}

// P26.4: changes that can't be done are refused, ahead of there being no room.
func TestFoldErrors(t *testing.T) {
	f := sample.Cast("x(u z v x)")
	full := api.Reacts{Queues: []api.ReactQueue{queue(9, api.MaxReactions)}}
	told := api.Change{Kind: api.ChangeAttr, Node: 2, Name: api.Name{Local: "p"}, Has: true}
	for what, c := range map[string]api.Change{
		"no kind":                 {},
		"a kind that is none":     {Kind: api.ChangeCount},
		"no node":                 {Kind: api.ChangeRemove, Node: 99, Parent: 2},
		"another place":           {Kind: api.ChangeRemove, Node: 4, Parent: 2, Index: 3},
		"it has a parent":         {Kind: api.ChangeInsert, Node: 3, Parent: 2},
		"adopted while it hangs":  {Kind: api.ChangeAdopt, Node: 3, Doc: 1},
		"an attribute it has not": {Kind: api.ChangeAttr, Node: 2, Name: api.Name{Local: "r"}, Had: true},
		"told of no node":         {Kind: api.ChangeTree, Parent: 99},
	} {
		for _, s := range []api.Reacts{{}, full} {
			for _, l := range [][]api.Change{{c}, {told, c}, {{Kind: api.ChangeTree}, told, c, told}} {
				if why := errorOfFold(f, s, registry(), l...); why != api.ErrRange {
					t.Errorf("%s: error %d", what, why)
				}
			}
		}
	}
	for _, s := range []api.Reacts{{}, full} {
		if why := errorOfFold(f, s, registry(), make([]api.Change, api.MaxList+1)...); why != api.ErrMany {
			t.Error("too many changes:", why)
		}
		made := api.Change{Kind: api.ChangeMake, Node: api.MaxNodes + 1, Made: api.Node{Kind: api.KindText, Doc: 1}}
		if why := errorOfFold(sample.Flat(api.MaxNodes), s, registry(), made); why != api.ErrMany {
			t.Error("too many nodes:", why)
		}
	}
	if why := errorOfFold(f, full, registry(), told); why != api.ErrMany {
		t.Error("no room:", why)
	}
	if why := errorOfFold(f, full, registry(), api.Change{Kind: api.ChangeAttr, Node: 2, Name: api.Name{Local: "r"}, Has: true}, api.Change{Kind: api.ChangeRemove, Node: 3, Parent: 2}); why != api.OK {
		t.Error("nothing is told:", why)
	}
}

// P26.1 to P26.5: nothing panics, and nothing takes long, where what is handed in is far too great.
func TestFarTooGreat(t *testing.T) {
	many := make([]api.ReactQueue, 1<<18)
	for i := range many {
		many[i] = queue(i+1, 1)
	}
	for what, s := range map[string]api.Reacts{
		"queues": {Queues: many}, "a queue": {Queues: []api.ReactQueue{queue(1, 1<<18)}},
		"lists": {Stack: make([][]int, 1<<18)}, "a list": {Stack: lists(numbers(1<<20, 1))}, "Backup": {Backup: numbers(1<<20, 1)},
	} {
		wantAll(t, what, errorsAlone(s, nil), api.ErrState)
	}
	if _, _, _, _, why := react.Take(api.Reacts{}, numbers(1<<20, 1)); why != api.ErrMany {
		t.Error("too many elements:", why)
	}
}
