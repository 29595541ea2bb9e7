package react_test

import (
	"fmt"
	"math"
	"slices"
	"strings"
	"testing"

	"canopy/api"
	"canopy/react"
	"canopy/sample"
)

func dots(l []int) string { return strings.Trim(strings.ReplaceAll(fmt.Sprint(l), " ", "."), "[]") }

// word has of a reaction what its kind has: ^ and the definition, + or - and the callback, ~ and the documents, or the attribute in brackets, and the callback. A field that its kind has not, and is not zero, is told by ?.
func word(r api.Reaction) string {
	text, has := "!", api.Reaction{Element: r.Element, Kind: r.Kind, Callback: r.Callback}
	switch r.Kind {
	case api.ReactUpgrade:
		has.Callback, has.Definition = 0, r.Definition
		text = "^" + r.Definition
	case api.ReactConnected:
		text = fmt.Sprintf("+%d", r.Callback)
	case api.ReactDisconnected:
		text = fmt.Sprintf("-%d", r.Callback)
	case api.ReactAdopted:
		has.From, has.To = r.From, r.To
		text = fmt.Sprintf("~%d>%d:%d", r.From, r.To, r.Callback)
	case api.ReactChanged:
		has.Local, has.Space, has.Old, has.New, has.Had, has.Has = r.Local, r.Space, r.Old, r.New, r.Had, r.Has
		text = "[" + r.Space + r.Local
		if r.Had || r.Old != "" {
			text += "=" + r.Old
		}
		if r.Has || r.New != "" {
			text += ">" + r.New
		}
		text += fmt.Sprintf("]%d", r.Callback)
	}
	if r != has {
		text += "?"
	}
	return text
}

// written has of each queue its element and its reactions; then the lists of the stack, each behind |; then the backup list behind =, and * if it is Busy.
func written(s api.Reacts) string {
	var words []string
	for _, q := range s.Queues {
		var list []string
		for _, r := range q.List {
			if r.Element != q.Element {
				list = append(list, "!")
			}
			list = append(list, word(r))
		}
		words = append(words, fmt.Sprintf("%d(%s)", q.Element, strings.Join(list, " ")))
	}
	for _, l := range s.Stack {
		words = append(words, "|"+dots(l))
	}
	if len(s.Backup) > 0 {
		words = append(words, "="+dots(s.Backup))
	}
	if s.Busy {
		words = append(words, "*")
	}
	return strings.Join(words, " ")
}

// queue is one of an element that was told so often that it is connected.
func queue(h, n int) api.ReactQueue {
	q := api.ReactQueue{Element: h}
	for i := range n {
		q.List = append(q.List, api.Reaction{Element: h, Kind: api.ReactConnected, Callback: i + 1})
	}
	return q
}

// lists is a stack.
func lists(l ...[]int) [][]int { return l }

// numbers are n of them, all the same.
func numbers(n, h int) []int { return slices.Repeat([]int{h}, n) }

// registry has x-a, which wants all, and is told of the attributes p and q; x-b, a button, which wants nothing; x-c, which wants what it was made for. The elements 2, 3 and 4 are custom ones of these, 5 failed, 6 is undefined, 7 is one that nothing is known of.
func registry() api.Registry {
	return api.Registry{
		Definitions: []api.Definition{
			{Name: "x-a", Local: "x-a", Constructor: 1, Connected: 11, Disconnected: 12, Adopted: 13, Changed: 14, Observed: []string{"p", "q"}},
			{Name: "x-b", Local: "button", Constructor: 2, Observed: []string{"p"}},
			{Name: "x-c", Local: "x-c", Constructor: 3, Connected: -31, Changed: 34},
		},
		Elements: []api.Custom{
			{Node: 2, State: api.StateCustom, Definition: "x-a"}, {Node: 3, State: api.StateCustom, Definition: "x-b", Is: "x-b"}, {Node: 4, State: api.StateCustom, Definition: "x-c"},
			{Node: 5, State: api.StateFailed, Definition: "x-a"}, {Node: 6, State: api.StateUndefined}, {Node: 7},
		},
	}
}

func fine(t *testing.T, why api.Errno) {
	t.Helper()
	if why != api.OK {
		t.Fatal("error", why)
	}
}

// wantWaits sees what reactions became, and whether the backup list must be seen to.
func wantWaits(t *testing.T, what string, s api.Reacts, seen bool, why api.Errno, want string, wantSeen bool) {
	t.Helper()
	if why != api.OK || written(s) != want || seen != wantSeen {
		t.Errorf("%s: %s, %v, error %d; want %s, %v", what, written(s), seen, why, want, wantSeen)
	}
	if why := react.Check(s); why != api.OK {
		t.Errorf("%s: what is answered is not right: %s", what, written(s))
	}
}

// The chapter's example.
func TestExample(t *testing.T) {
	f := sample.Cast("")
	f.Nodes = append(f.Nodes, api.Node{Kind: api.KindElement, Name: api.Name{Space: api.SpaceHTML, Local: "x-a"}, Doc: 1})
	reg := api.Registry{
		Definitions: []api.Definition{{Name: "x-a", Local: "x-a", Constructor: 1, Connected: 7}},
		Elements:    []api.Custom{{Node: 2, State: api.StateCustom, Definition: "x-a"}},
	}
	put := []api.Change{{Kind: api.ChangeInsert, Node: 2, Parent: 1}}
	s, why := react.Push(api.Reacts{})
	fine(t, why)
	s, seen, why := react.Fold(f, s, reg, put)
	wantWaits(t, "Fold", s, seen, why, "2(+7) |2", false)
	s, l, why := react.Pop(s)
	wantWaits(t, "Pop", s, false, why, "2(+7)", false)
	s, l, r, is, why := react.Take(s, l)
	wantWaits(t, "Take", s, false, why, "", false)
	if !is || len(l) != 0 || r != (api.Reaction{Element: 2, Kind: api.ReactConnected, Callback: 7}) {
		t.Error("Take:", l, r, is)
	}
	s, l, r, is, why = react.Take(s, l)
	wantWaits(t, "Take, once more", s, false, why, "", false)
	if is || len(l) != 0 || r != (api.Reaction{}) {
		t.Error("Take, once more:", l, r, is)
	}
	s, seen, why = react.Fold(f, api.Reacts{}, reg, put)
	wantWaits(t, "without Push", s, seen, why, "2(+7) =2 *", true)
}

// Words (reactions that wait are right), P26.1: at each edge.
func TestRight(t *testing.T) {
	all := api.Reacts{Queues: []api.ReactQueue{{Element: 3}}}
	for k := api.ReactUpgrade; k <= api.ReactChanged; k++ {
		all.Queues[0].List = append(all.Queues[0].List, api.Reaction{Element: 3, Kind: k})
	}
	var single api.Reacts
	for i := range api.MaxReactions {
		single.Queues = append(single.Queues, queue(i+1, 1))
	}
	for what, s := range map[string]api.Reacts{
		"nothing":                 {},
		"empty lists":             {Queues: []api.ReactQueue{}, Stack: [][]int{}, Backup: []int{}},
		"each kind":               all,
		"queues in any order":     {Queues: []api.ReactQueue{queue(7, 2), queue(1, 1), queue(math.MaxInt, 3)}},
		"as many as may be":       {Queues: []api.ReactQueue{queue(1, api.MaxReactions)}},
		"such, in two queues":     {Queues: []api.ReactQueue{queue(2, api.MaxReactions-1), queue(1, 1)}},
		"such, each in its queue": single,
		"lists of none":           {Stack: lists(nil, []int{}, nil)},
		"as many lists":           {Stack: make([][]int, api.MaxStack)},
		"as many in lists":        {Stack: lists(nil, numbers(api.MaxReactions, 1), numbers(api.MaxReactions, math.MaxInt))},
		"as many in Backup":       {Backup: numbers(api.MaxReactions, 5)},
		"elements without queues": {Stack: lists([]int{5, 6, 5}), Backup: []int{7, 7}},
		"queues of no list":       {Queues: []api.ReactQueue{queue(7, 2)}},
		"Busy of nothing":         {Busy: true},
		"Backup, not Busy":        {Backup: []int{1}},
		"other fields":            {Queues: []api.ReactQueue{{Element: 1, List: []api.Reaction{{Element: 1, Kind: api.ReactConnected, Callback: -1, Definition: "z", Local: "p", From: -7}}}}},
	} {
		if why := react.Check(s); why != api.OK {
			t.Errorf("%s: error %d", what, why)
		}
	}
}

// P26.2: a list more, and one less.
func TestPushAndPop(t *testing.T) {
	some := api.Reacts{Queues: []api.ReactQueue{queue(3, 2)}, Stack: lists([]int{1, 2}, nil, []int{3}), Backup: []int{4, 3}, Busy: true}
	s, why := react.Push(some)
	wantWaits(t, "Push", s, false, why, "3(+1 +2) |1.2 | |3 | =4.3 *", false)
	s, l, why := react.Pop(s)
	wantWaits(t, "Pop of an empty one", s, false, why, "3(+1 +2) |1.2 | |3 =4.3 *", false)
	if len(l) != 0 {
		t.Error("Pop of an empty one:", l)
	}
	for _, x := range []struct {
		want, left string
	}{{"3", "3(+1 +2) |1.2 | =4.3 *"}, {"", "3(+1 +2) |1.2 =4.3 *"}, {"1.2", "3(+1 +2) =4.3 *"}} {
		s, l, why = react.Pop(s)
		wantWaits(t, "Pop", s, false, why, x.left, false)
		if dots(l) != x.want {
			t.Error("Pop:", l)
		}
	}
	if s, l, why := react.Pop(s); why != api.ErrNotFound || l != nil || !zero(s) {
		t.Error("Pop of none:", l, why)
	}
	s, why = react.Push(api.Reacts{})
	wantWaits(t, "Push of nothing", s, false, why, "|", false)
	s, why = react.Push(api.Reacts{Stack: make([][]int, api.MaxStack-1)})
	if why != api.OK || len(s.Stack) != api.MaxStack {
		t.Error("the last one:", len(s.Stack), why)
	}
	if _, why := react.Push(s); why != api.ErrMany {
		t.Error("one too many:", why)
	}
	s.Stack[api.MaxStack-1] = []int{9}
	if s, l, why := react.Pop(s); why != api.OK || len(s.Stack) != api.MaxStack-1 || dots(l) != "9" {
		t.Error("Pop of as many as may be:", len(s.Stack), l, why)
	}
}

// Words (telling an element), P26.3: of each kind, of each element; what is told is what the reaction says, with the definition's callback.
func TestTell(t *testing.T) {
	said := api.Reaction{Callback: 99, Definition: "x-z"}
	for _, x := range []struct {
		what string
		h    int
		want [4]string // of being connected, disconnected, adopted, of an attribute p
	}{
		{"one that wants all", 2, [4]string{"2(+11) |2", "2(-12) |2", "2(~5>6:13) |2", "2([urn:p=o>n]14) |2"}},
		{"one that wants nothing", 3, [4]string{"|", "|", "|", "|"}},
		{"one that wants some", 4, [4]string{"4(+-31) |4", "|", "|", "|"}},
		{"one that failed", 5, [4]string{"|", "|", "|", "|"}},
		{"one that is undefined", 6, [4]string{"|", "|", "|", "|"}},
		{"one that is uncustomized", 7, [4]string{"|", "|", "|", "|"}},
		{"one that nothing is known of", 8, [4]string{"|", "|", "|", "|"}},
		{"one far away", math.MaxInt, [4]string{"|", "|", "|", "|"}},
	} {
		for i, want := range x.want {
			r := said
			r.Element, r.Kind = x.h, api.ReactConnected+api.ReactionKind(i)
			switch r.Kind {
			case api.ReactAdopted:
				r.From, r.To = 5, 6
			case api.ReactChanged:
				r.Local, r.Space, r.Old, r.New, r.Had, r.Has = "p", "urn:", "o", "n", true, true
			}
			s, seen, why := react.Tell(api.Reacts{Stack: lists(nil)}, registry(), r)
			wantWaits(t, x.what, s, seen, why, want, false)
		}
	}
}

// Words (telling an element): an attribute is told by its Local, whatever its Space.
func TestTellAttributes(t *testing.T) {
	for _, x := range []struct {
		r    api.Reaction
		want string
	}{
		{api.Reaction{Local: "p"}, "2([p]14) =2 *"},
		{api.Reaction{Local: "q", New: "v", Has: true}, "2([q>v]14) =2 *"},
		{api.Reaction{Local: "q", Old: "v", Had: true}, "2([q=v]14) =2 *"},
		{api.Reaction{Local: "p", Space: "urn:x:", Old: "v", Had: true, New: "", Has: true}, "2([urn:x:p=v>]14) =2 *"},
		{api.Reaction{Local: "P"}, ""}, {api.Reaction{Local: ""}, ""}, {api.Reaction{Local: "pq"}, ""}, {api.Reaction{Space: "p"}, ""},
	} {
		x.r.Element, x.r.Kind = 2, api.ReactChanged
		s, seen, why := react.Tell(api.Reacts{}, registry(), x.r)
		wantWaits(t, fmt.Sprint(x.r), s, seen, why, x.want, x.want != "")
	}
	reg := registry()
	reg.Definitions[0].Observed = []string{""}
	s, seen, why := react.Tell(api.Reacts{}, reg, api.Reaction{Element: 2, Kind: api.ReactChanged})
	wantWaits(t, "an empty name that is observed", s, seen, why, "2([]14) =2 *", true)
	all := api.Reaction{Element: 2, Kind: api.ReactChanged, Callback: 1, Definition: "x-a", Local: "p", Space: "s", Old: "o", New: "n", Had: true, Has: true, From: 3, To: -4}
	s, _, why = react.Tell(api.Reacts{}, registry(), all)
	fine(t, why)
	all.Callback, all.Definition = 14, ""
	if got := s.Queues[0].List[0]; got != all {
		t.Errorf("what is said in all fields: %+v", got)
	}
}

// Words (having a reaction wait), P26.11: behind the element's others, behind the last list, or behind Backup, which must be seen to if it was not.
func TestWaiting(t *testing.T) {
	q := func(l ...api.ReactQueue) []api.ReactQueue { return l }
	for _, x := range []struct {
		what string
		s    api.Reacts
		want string
		seen bool
	}{
		{"nothing waits", api.Reacts{}, "2(+11) =2 *", true},
		{"Busy", api.Reacts{Busy: true}, "2(+11) =2 *", false},
		{"Busy, with others", api.Reacts{Backup: []int{4, 2}, Busy: true}, "2(+11) =4.2.2 *", false},
		{"not Busy, with others", api.Reacts{Backup: []int{4, 2}}, "2(+11) =4.2.2 *", true},
		{"a list", api.Reacts{Stack: lists(nil)}, "2(+11) |2", false},
		{"the last list", api.Reacts{Stack: lists([]int{1}, nil, []int{3, 2})}, "2(+11) |1 | |3.2.2", false},
		{"a list, and Backup", api.Reacts{Stack: lists(nil), Backup: []int{4}}, "2(+11) |2 =4", false},
		{"a list, and Busy", api.Reacts{Stack: lists(nil), Backup: []int{4}, Busy: true}, "2(+11) |2 =4 *", false},
		{"it has a queue", api.Reacts{Queues: q(queue(2, 2)), Stack: lists(nil)}, "2(+1 +2 +11) |2", false},
		{"the queue is not the last", api.Reacts{Queues: q(queue(9, 1), queue(2, 1), queue(1, 1))}, "9(+1) 2(+1 +11) 1(+1) =2 *", true},
		{"others have queues", api.Reacts{Queues: q(queue(9, 1), queue(1, 2)), Stack: lists([]int{9})}, "9(+1) 1(+1 +2) 2(+11) |9.2", false},
	} {
		s, seen, why := react.Tell(x.s, registry(), api.Reaction{Element: 2, Kind: api.ReactConnected})
		wantWaits(t, x.what, s, seen, why, x.want, x.seen)
		s, seen, why = react.Tell(x.s, registry(), api.Reaction{Element: 3, Kind: api.ReactConnected})
		wantWaits(t, x.what+", and nothing is told", s, seen, why, written(x.s), false)
	}
	s, _, why := react.Tell(api.Reacts{Stack: make([][]int, api.MaxStack)}, registry(), api.Reaction{Element: 2, Kind: api.ReactConnected})
	if why != api.OK || len(s.Stack) != api.MaxStack || dots(s.Stack[api.MaxStack-1]) != "2" || len(s.Stack[api.MaxStack-2]) != 0 {
		t.Error("as many lists as may be:", len(s.Stack), why)
	}
}

// Words (having a reaction wait): as many as may be, and one more; where nothing waits there is no error.
func TestFull(t *testing.T) {
	most, half := api.MaxReactions, api.MaxReactions/2
	for _, x := range []struct {
		what string
		s    api.Reacts
		fits bool
	}{
		{"one less", api.Reacts{Queues: []api.ReactQueue{queue(9, half), queue(8, half-1)}}, true},
		{"all", api.Reacts{Queues: []api.ReactQueue{queue(9, half), queue(8, half)}}, false},
		{"all, with a list", api.Reacts{Queues: []api.ReactQueue{queue(9, most)}, Stack: lists(nil)}, false},
		{"all are its own", api.Reacts{Queues: []api.ReactQueue{queue(2, most)}, Stack: lists(nil)}, false},
		{"a list with one less", api.Reacts{Stack: lists(numbers(most-1, 2))}, true},
		{"a full list", api.Reacts{Stack: lists(numbers(most, 2))}, false},
		{"a full list that is not the last", api.Reacts{Stack: lists(numbers(most, 2), nil)}, true},
		{"the last list is full", api.Reacts{Stack: lists(nil, numbers(most, 2))}, false},
		{"Backup with one less", api.Reacts{Backup: numbers(most-1, 9)}, true},
		{"a full Backup", api.Reacts{Backup: numbers(most, 9)}, false},
		{"a full Backup, Busy", api.Reacts{Backup: numbers(most, 9), Busy: true}, false},
		{"a full Backup, and a list", api.Reacts{Backup: numbers(most, 9), Stack: lists(nil)}, true},
	} {
		f := sample.Cast("x(u z v x u)")
		reg := registry()
		reg.Elements = append(reg.Elements, api.Custom{Node: 8})
		undefined := registry()
		undefined.Elements[0] = api.Custom{Node: 2, State: api.StateUndefined}
		want := api.ErrMany
		if x.fits {
			want = api.OK
		}
		for what, call := range map[string]func(int) (api.Reacts, bool, api.Errno){
			"Tell": func(h int) (api.Reacts, bool, api.Errno) {
				return react.Tell(x.s, reg, api.Reaction{Element: h, Kind: api.ReactConnected})
			},
			"Try":     func(h int) (api.Reacts, bool, api.Errno) { return react.Try(f, x.s, undefined, h) },
			"Started": func(h int) (api.Reacts, bool, api.Errno) { return react.Started(f, x.s, reg, h) },
			"Fold": func(h int) (api.Reacts, bool, api.Errno) {
				return react.Fold(f, x.s, reg, []api.Change{{Kind: api.ChangeAttr, Node: h, Name: api.Name{Local: "p"}, Has: true}})
			},
		} {
			s, seen, why := call(2)
			if why != want || why != api.OK && (seen || !zero(s)) {
				t.Errorf("%s: %s: error %d; want %d", x.what, what, why, want)
			}
			if s, seen, why := call(3); why != api.OK || seen || !sample.SameReacts(s, x.s) {
				t.Errorf("%s: %s of one that wants nothing: error %d", x.what, what, why)
			}
		}
	}
}

// P26.3, Words (trying to upgrade): in each state, with a definition and without one.
func TestTry(t *testing.T) {
	f := sample.Cast("a(x z u v w x) ~(x)")
	for _, x := range []struct {
		what string
		h    int
		e    api.Custom
		want string
	}{
		{"not known", 3, api.Custom{}, "3(^x-a)"},
		{"uncustomized", 3, api.Custom{Node: 3}, "3(^x-a)"},
		{"undefined", 3, api.Custom{Node: 3, State: api.StateUndefined}, "3(^x-a)"},
		{"with an is that is no matter", 3, api.Custom{Node: 3, State: api.StateUndefined, Is: "x-b"}, "3(^x-a)"},
		{"failed", 3, api.Custom{Node: 3, State: api.StateFailed, Definition: "x-a"}, ""},
		{"custom", 3, api.Custom{Node: 3, State: api.StateCustom, Definition: "x-c"}, ""},
		{"another one", 4, api.Custom{}, "4(^x-c)"},
		{"a built-in one", 5, api.Custom{}, ""},
		{"a built-in one, no is", 5, api.Custom{Node: 5, State: api.StateUndefined}, ""},
		{"with its is", 5, api.Custom{Node: 5, State: api.StateUndefined, Is: "x-b"}, "5(^x-b)"},
		{"with its is, uncustomized", 5, api.Custom{Node: 5, Is: "x-b"}, "5(^x-b)"},
		{"with its is, failed", 5, api.Custom{Node: 5, Is: "x-b", State: api.StateFailed, Definition: "x-b"}, ""},
		{"with another is", 5, api.Custom{Node: 5, State: api.StateUndefined, Is: "x-a"}, ""},
		{"another built-in one", 6, api.Custom{Node: 6, State: api.StateUndefined, Is: "x-b"}, ""},
		{"in another space", 7, api.Custom{Node: 7, State: api.StateUndefined}, ""},
		{"no definition", 2, api.Custom{}, ""},
		{"that is loose", 10, api.Custom{}, "10(^x-a)"},
	} {
		reg := api.Registry{Definitions: registry().Definitions}
		if x.e.Node != 0 {
			reg.Elements = []api.Custom{x.e}
		}
		s, seen, why := react.Try(f, api.Reacts{Stack: lists([]int{9})}, reg, x.h)
		if x.want == "" {
			wantWaits(t, x.what, s, seen, why, "|9", false)
			continue
		}
		wantWaits(t, x.what, s, seen, why, fmt.Sprintf("%s |9.%d", x.want, x.h), false)
		s, seen, why = react.Try(f, api.Reacts{}, reg, x.h)
		wantWaits(t, x.what, s, seen, why, fmt.Sprintf("%s =%d *", x.want, x.h), true)
	}
	s, seen, why := react.Try(f, api.Reacts{}, api.Registry{}, 3)
	wantWaits(t, "no definitions", s, seen, why, "", false)
	twice := api.Reacts{Queues: []api.ReactQueue{{Element: 3, List: []api.Reaction{{Element: 3, Kind: api.ReactUpgrade, Definition: "x-a"}}}}}
	s, seen, why = react.Try(f, twice, api.Registry{Definitions: registry().Definitions}, 3)
	wantWaits(t, "once more", s, seen, why, "3(^x-a ^x-a) =3 *", true)
}

// attributed has attributes at a node, of names with a space ahead of a blank, if they have one.
func attributed(f api.Forest, h int, names ...string) api.Forest {
	for i, name := range names {
		space, local, is := strings.Cut(name, " ")
		if !is {
			space, local = "", name
		}
		a := api.Attr{Name: api.Name{Space: space, Local: local}, Value: string(rune('1' + i))}
		f.Nodes[h-1].Attrs = append(f.Nodes[h-1].Attrs, a)
	}
	return f
}

// P26.3: what an element is told of when its upgrade begins: attributes that are observed, in order, then that it is connected.
func TestStarted(t *testing.T) {
	names := []string{"r", "q", "urn: p", "P", "p", "urn: r"}
	in, loose, shadowed := attributed(sample.Cast("x"), 2, names...), attributed(sample.Cast("~(x)"), 3, names...), attributed(sample.Cast("a{b(x)}"), 5, names...)
	custom := func(h int, s api.CustomState, name string) api.Registry {
		return api.Registry{Definitions: registry().Definitions, Elements: []api.Custom{{Node: h, State: s, Definition: name}}}
	}
	for _, x := range []struct {
		what string
		f    api.Forest
		h    int
		name string
		want string
	}{
		{"connected", in, 2, "x-a", "2([q>2]14 [urn:p>3]14 [p>5]14 +11) |2.2.2.2"},
		{"not connected", loose, 3, "x-a", "3([q>2]14 [urn:p>3]14 [p>5]14) |3.3.3"},
		{"in a shadow tree", shadowed, 5, "x-a", "5([q>2]14 [urn:p>3]14 [p>5]14 +11) |5.5.5.5"},
		{"without attributes", sample.Cast("x"), 2, "x-a", "2(+11) |2"},
		{"without any, not connected", sample.Cast("~(x)"), 3, "x-a", "|"},
		{"of a definition that wants nothing", in, 2, "x-b", "|"},
		{"of one that observes none", in, 2, "x-c", "2(+-31) |2"},
	} {
		for _, state := range []api.CustomState{api.StateFailed, api.StateCustom} {
			s, seen, why := react.Started(x.f, api.Reacts{Stack: lists(nil)}, custom(x.h, state, x.name), x.h)
			wantWaits(t, x.what, s, seen, why, x.want, false)
		}
	}
	s, seen, why := react.Started(in, api.Reacts{Queues: []api.ReactQueue{queue(2, 1)}}, custom(2, api.StateFailed, "x-a"), 2)
	wantWaits(t, "behind others, in Backup", s, seen, why, "2(+1 [q>2]14 [urn:p>3]14 [p>5]14 +11) =2.2.2.2 *", true)
	s, seen, why = react.Started(in, api.Reacts{Busy: true}, custom(2, api.StateCustom, "x-c"), 2)
	wantWaits(t, "Busy", s, seen, why, "2(+-31) =2 *", false)
	for _, n := range []int{1, 2, 3, 4} {
		full := api.Reacts{Queues: []api.ReactQueue{queue(9, api.MaxReactions-n)}}
		s, seen, why := react.Started(in, full, custom(2, api.StateCustom, "x-a"), 2)
		if n == 4 && why != api.OK || n < 4 && (why != api.ErrMany || seen || !zero(s)) {
			t.Errorf("room for %d: error %d", n, why)
		}
	}
}
