package shadow_test

import (
	"math"
	"slices"
	"strings"
	"testing"
	"time"

	"canopy/api"
	"canopy/forest"
	"canopy/sample"
	"canopy/shadow"
)

// asked is what the calls that take what is given by hand answer, each as its error; beside one there is nothing.
func asked(t *testing.T, f api.Forest, hand []api.Assign, h int, nodes []int, changes []api.Change) map[string]api.Errno {
	t.Helper()
	gave, give := shadow.Give(f, hand, h, nodes)
	slot, slotWhy := shadow.Slot(f, hand, h, false)
	assigned, assignedWhy := shadow.Assigned(f, hand, h)
	all, allWhy := shadow.All(f, hand, h)
	signals, signalsWhy := shadow.Signals(f, hand, changes)
	if give != api.OK && gave != nil || slotWhy != api.OK && slot != 0 || assignedWhy != api.OK && assigned != nil || allWhy != api.OK && all != nil || signalsWhy != api.OK && signals != nil {
		t.Error("beside an error:", gave, slot, assigned, all, signals)
	}
	return map[string]api.Errno{"Check": shadow.Check(f, hand), "Give": give, "Slot": slotWhy, "Assigned": assignedWhy, "All": allWhy, "Signals": signalsWhy}
}

// wantAsked has all these calls refuse by one error.
func wantAsked(t *testing.T, what string, got map[string]api.Errno, no api.Errno) {
	t.Helper()
	for call, why := range got {
		if why != no {
			t.Errorf("%s: %s: error %d; want %d", what, call, why, no)
		}
	}
}

func wantNotAttached(t *testing.T, what string, f api.Forest, h int, mode api.ShadowMode, no api.Errno) {
	t.Helper()
	for _, manual := range []bool{false, true} {
		if g, l, made, why := shadow.Attach(f, h, mode, manual); why != no || g.Nodes != nil || l != nil || made != 0 {
			t.Errorf("%s: Attach(%d): %d, error %d; want %d", what, h, made, why, no)
		}
	}
}

func tooMany() []api.Change { return make([]api.Change, api.MaxList+1) }

// noNodes are handles of none of the theatre.
func noNodes() []int { return []int{0, -1, loose + 1, math.MaxInt, math.MinInt} }

// P18.1, P18.2: a forest that is not right goes ahead of all.
func TestTornForest(t *testing.T) {
	for _, f := range sample.Torn() {
		for _, h := range []int{0, 1, 2, 99} {
			wantNotAttached(t, "torn", f, h, api.ShadowNone, api.ErrForest)
			wantNotAttached(t, "torn", f, h, api.ShadowOpen, api.ErrForest)
			for _, hand := range [][]api.Assign{nil, {given(99)}, {given(2), given(2)}, make([]api.Assign, api.MaxList+1)} {
				wantAsked(t, "torn", asked(t, f, hand, h, []int{h}, tooMany()), api.ErrForest)
			}
		}
	}
}

// P18.1: then no node, then no element or no mode, then an element that may have none, or has one, then no room.
func TestNotAttached(t *testing.T) {
	f := theatre()
	f.Nodes[toNone-1].Name.Local = "a"
	full := theatre()
	for len(full.Nodes) < api.MaxNodes {
		full.Nodes = append(full.Nodes, api.Node{Kind: api.KindText, Doc: 1})
	}
	full.Nodes[toNone-1].Name.Local = "a"
	modes := []api.ShadowMode{api.ShadowNone, api.ShadowOpen, api.ShadowClosed, api.ShadowCount, 255}
	for _, mode := range modes {
		for _, h := range noNodes() {
			wantNotAttached(t, "no node", f, h, mode, api.ErrRange)
		}
		wantNotAttached(t, "no node, no room", full, api.MaxNodes+1, mode, api.ErrRange)
		for _, h := range []int{doc, text, comment, cdata, root} {
			wantNotAttached(t, "no element", f, h, mode, api.ErrType)
			wantNotAttached(t, "no element, no room", full, h, mode, api.ErrType)
		}
		for _, h := range []int{loose, toNone, host, svgSlot} {
			if mode != api.ShadowOpen && mode != api.ShadowClosed {
				wantNotAttached(t, "no mode", f, h, mode, api.ErrType)
				wantNotAttached(t, "no mode, no room", full, h, mode, api.ErrType)
			}
		}
	}
	for _, mode := range modes[1:3] {
		for _, h := range []int{toB, svgSlot, toNone, slotA, host, shut, manual} {
			wantNotAttached(t, "not supported", f, h, mode, api.ErrUnsupported)
			wantNotAttached(t, "not supported, no room", full, h, mode, api.ErrUnsupported)
		}
		wantNotAttached(t, "no room", full, loose, mode, api.ErrMany)
		almost := api.Forest{Nodes: full.Nodes[:api.MaxNodes-1]}
		if _, _, made, why := shadow.Attach(almost, loose, mode, false); made != api.MaxNodes || why != api.OK {
			t.Error("room for one:", made, why)
		}
	}
	svg := theatre()
	for _, space := range []string{"", api.SpaceSVG, api.SpaceXML, "http://www.w3.org/1999/XHTML"} {
		svg.Nodes[loose-1].Name = api.Name{Space: space, Local: "div"}
		wantNotAttached(t, "of another namespace", svg, loose, api.ShadowOpen, api.ErrUnsupported)
	}
}

// P18.2: what is given by hand is refused for its length, then for a handle that is none, then for what it is.
func TestCheck(t *testing.T) {
	f := theatre()
	long := slices.Repeat(some(toA), api.MaxList+1)
	entries := slices.Repeat([]api.Assign{given(slotA, toA)}, api.MaxList+1)
	for _, x := range []struct {
		what string
		hand []api.Assign
		why  api.Errno
	}{
		{"nothing", nil, api.OK},
		{"no entries", []api.Assign{}, api.OK},
		{"slots anywhere, any slottables", []api.Assign{given(looseSlot, slotA, text), given(slotA, cdata, looseSlot, host), given(handA)}, api.OK},
		{"too many entries", entries, api.ErrMany},
		{"too many nodes", []api.Assign{given(slotA), given(slotB, long...)}, api.ErrMany},
		{"too many nodes, and no node", []api.Assign{given(0, -1), given(slotB, long...)}, api.ErrMany},
		{"too many entries, and no nodes", make([]api.Assign, api.MaxList+1), api.ErrMany},
		{"as many nodes as may be, one of them twice", []api.Assign{given(slotA, long[:api.MaxList]...)}, api.ErrType},
		{"as many entries as may be, one of them twice", entries[:api.MaxList], api.ErrType},
		{"no slot", []api.Assign{given(box)}, api.ErrType},
		{"no slot, but a slot of another namespace", []api.Assign{given(svgSlot)}, api.ErrType},
		{"no slot, but a text", []api.Assign{given(slotA), given(text)}, api.ErrType},
		{"a slot twice", []api.Assign{given(slotA), given(slotB), given(slotA)}, api.ErrType},
		{"a node twice in one entry", []api.Assign{given(slotA, toA, toB, toA)}, api.ErrType},
		{"a node twice in two", []api.Assign{given(slotA, toA), given(slotB, toB, toA)}, api.ErrType},
		{"a comment", []api.Assign{given(slotA, comment)}, api.ErrType},
		{"a shadow root", []api.Assign{given(slotA, root)}, api.ErrType},
		{"a document", []api.Assign{given(slotA, toA, doc)}, api.ErrType},
	} {
		if why := shadow.Check(f, x.hand); why != x.why {
			t.Errorf("%s: error %d; want %d", x.what, why, x.why)
		}
		if x.why != api.OK {
			for _, h := range []int{slotA, box, 0, 99} {
				wantAsked(t, x.what, asked(t, f, x.hand, h, []int{h}, tooMany()), x.why)
			}
		}
	}
	for _, h := range noNodes() {
		for _, hand := range [][]api.Assign{{given(h)}, {given(slotA, h)}, {given(box), given(slotA, toA, toA), given(h)}, {given(slotA, comment, doc, h)}} {
			wantAsked(t, "no node", asked(t, f, hand, box, []int{h}, tooMany()), api.ErrRange)
		}
	}
	wantAsked(t, "no forest", asked(t, api.Forest{}, []api.Assign{{}}, 1, nil, nil), api.ErrRange)
}

// P18.3: too many nodes, then no node, then no slot or no slottable.
func TestGiveRefused(t *testing.T) {
	f, hand := theatre(), []api.Assign{given(slotA, toA)}
	long := slices.Repeat(some(toA), api.MaxList+1)
	for _, x := range []struct {
		what  string
		slot  int
		nodes []int
		why   api.Errno
	}{
		{"too many", slotA, long, api.ErrMany},
		{"too many, no node, no slottable", 0, append(some(comment, -1), long...), api.ErrMany},
		{"no slot's handle", 0, some(comment), api.ErrRange},
		{"no node's handle", box, some(comment, loose+1), api.ErrRange},
		{"no slot", box, some(toA), api.ErrType},
		{"a slot of another namespace", svgSlot, nil, api.ErrType},
		{"no slot, none", doc, nil, api.ErrType},
		{"a comment", slotA, some(toA, comment), api.ErrType},
		{"a shadow root", slotA, some(byHand), api.ErrType},
		{"a document", slotA, some(doc), api.ErrType},
	} {
		if got, why := shadow.Give(f, hand, x.slot, x.nodes); why != x.why || got != nil {
			t.Errorf("%s: %v, error %d; want %d", x.what, got, why, x.why)
		}
	}
	for _, h := range noNodes() {
		if _, why := shadow.Give(f, hand, h, some(toA)); why != api.ErrRange {
			t.Errorf("slot %d: error %d", h, why)
		}
		if _, why := shadow.Give(f, hand, slotA, some(toB, h)); why != api.ErrRange {
			t.Errorf("node %d: error %d", h, why)
		}
	}
	if got, why := shadow.Give(f, hand, slotB, long[:api.MaxList]); why != api.OK || !sameHand(got, []api.Assign{given(slotA), given(slotB, toA)}) {
		t.Error("as many as may be:", got, why)
	}
}

// P18.4: no node, and of Assigned no slot.
func TestAskedOfNone(t *testing.T) {
	f := theatre()
	for _, h := range noNodes() {
		got := asked(t, f, nil, h, nil, nil)
		delete(got, "Check")
		delete(got, "Signals")
		wantAsked(t, "no node", got, api.ErrRange)
	}
	for _, h := range []int{doc, host, text, comment, root, box, svgSlot} {
		if l, why := shadow.Assigned(f, nil, h); why != api.ErrType || l != nil {
			t.Errorf("Assigned(%d): %v, error %d", h, l, why)
		}
	}
}

// P18.5: changes that can't be done: too many, or one of them, or a node too many.
func TestSignalsRefused(t *testing.T) {
	f := theatre()
	full := theatre()
	for len(full.Nodes) < api.MaxNodes {
		full.Nodes = append(full.Nodes, api.Node{Kind: api.KindText, Doc: 1})
	}
	for _, x := range []struct {
		what    string
		f       api.Forest
		changes []api.Change
		why     api.Errno
	}{
		{"too many", f, tooMany(), api.ErrMany},
		{"none that is known", f, make([]api.Change, 1), api.ErrRange},
		{"no node", f, []api.Change{{Kind: api.ChangeRemove, Node: 99, Parent: host}}, api.ErrRange},
		{"the second one", f, []api.Change{goes(f, toA), goes(f, toA)}, api.ErrRange},
		{"a ring", f, []api.Change{comes(looseSlot, looseKid, 0)}, api.ErrRange},
		{"a node too many", full, []api.Change{{Kind: api.ChangeMake, Node: api.MaxNodes + 1, Made: api.Node{Kind: api.KindText, Doc: 1}}}, api.ErrMany},
	} {
		if l, why := shadow.Signals(x.f, []api.Assign{given(slotA, toA)}, x.changes); why != x.why || l != nil {
			t.Errorf("%s: %v, error %d; want %d", x.what, l, why, x.why)
		}
	}
	if l, why := shadow.Signals(f, nil, slices.Repeat([]api.Change{{Kind: api.ChangeTree}}, api.MaxList)); why != api.OK || l != nil {
		t.Error("as many as may be:", l, why)
	}
}

// copyHand has lists of its own, with room behind them.
func copyHand(hand []api.Assign) []api.Assign {
	l := make([]api.Assign, 0, len(hand)+4)
	for _, a := range hand {
		l = append(l, api.Assign{Slot: a.Slot, Nodes: slices.Grow(slices.Clone(a.Nodes), 4)})
	}
	return l
}

func spoilHand(hand []api.Assign) {
	for _, a := range hand {
		sample.Fill(a.Nodes, 999)
	}
	sample.Fill(hand, given(999))
}

// P18.6: what is answered is new memory, in all its lists, and what is handed in stays as it is.
func TestNewMemory(t *testing.T) {
	if s := sample.Sharing(theatre(), func(f api.Forest) (api.Forest, []api.Change) {
		g, l, _, _ := shadow.Attach(f, loose, api.ShadowOpen, true)
		return g, l
	}); s != "" {
		t.Error("Attach:", s)
	}
	hand := []api.Assign{given(handB, handText, handKid), given(slotA, toB, toNone)}
	nodes := slices.Grow(some(handKid, toA, handKid), 4)
	for name, call := range map[string]func(f api.Forest, hand []api.Assign, nodes []int) []api.Assign{
		"Give": func(f api.Forest, hand []api.Assign, nodes []int) []api.Assign {
			l, _ := shadow.Give(f, hand, handA, nodes)
			return l
		},
		"Give once more": func(f api.Forest, hand []api.Assign, nodes []int) []api.Assign {
			l, _ := shadow.Give(f, hand, slotA, nodes[:1])
			return l
		},
		"All": func(f api.Forest, hand []api.Assign, _ []int) []api.Assign {
			l, _ := shadow.All(f, hand, root)
			return l
		},
		"All, by hand": func(f api.Forest, hand []api.Assign, _ []int) []api.Assign {
			l, _ := shadow.All(f, hand, byHand)
			return l
		},
		"Assigned": func(f api.Forest, hand []api.Assign, _ []int) []api.Assign {
			l, _ := shadow.Assigned(f, hand, handB)
			return []api.Assign{{Nodes: l}}
		},
		"Assigned, named": func(f api.Forest, hand []api.Assign, _ []int) []api.Assign {
			l, _ := shadow.Assigned(f, hand, rest)
			return []api.Assign{{Nodes: l}}
		},
	} {
		in, given, list := sample.Roomy(theatre()), copyHand(hand), slices.Clone(nodes)
		got := call(in, given, list)
		was := copyHand(got)
		for i := range got {
			sample.Fill(got[i].Nodes, 999)
			for j := i + 1; j < len(got); j++ {
				if !slices.Equal(got[j].Nodes, was[j].Nodes) {
					t.Errorf("%s: two lists of the answer are one", name)
				}
			}
		}
		spoilHand(got)
		if !forest.Same(in, theatre()) || sample.Spoilt(in) || !sameHand(given, hand) || !slices.Equal(list, nodes) || slices.ContainsFunc(given, func(a api.Assign) bool { return slices.Contains(a.Nodes[:cap(a.Nodes)], 999) }) {
			t.Errorf("%s: what is handed in changes with the answer", name)
		}
		got = call(in, given, list)
		sample.Spoil(in)
		spoilHand(given)
		sample.Fill(list, 999)
		if !sameHand(got, was) {
			t.Errorf("%s: the answer changes with what was handed in", name)
		}
	}
}

// P18.6: Signals changes nothing that is handed in, nor the room behind its lists.
func TestSignalsChangeNothing(t *testing.T) {
	f := theatre()
	slot := api.Node{Kind: api.KindElement, Name: html("slot"), Doc: doc}
	changes := []api.Change{
		goes(f, toA), comes(loose, host, 0), named(f, slotA, "name", "b"), named(f, loose, "slot", "a"),
		{Kind: api.ChangeMake, Node: loose + 1, Made: slot}, comes(loose+1, root, 0), comes(toA, loose+1, 0),
		{Kind: api.ChangeAttr, Node: loose + 1, Name: api.Name{Local: "name"}, Has: true, Value: "z"},
	}
	hand := []api.Assign{given(handB, handKid)}
	in, list := sample.Roomy(f), copyHand(hand)
	var roomy []api.Change
	for _, c := range changes {
		roomy = append(roomy, sample.RoomyChange(c))
	}
	got, why := shadow.Signals(in, list, roomy)
	if why != api.OK || len(got) == 0 {
		t.Fatal(got, why)
	}
	if !forest.Same(in, f) || !sameHand(list, hand) || !sample.SameChanges(roomy, changes) || !empty(in) || !empty(api.Forest{Nodes: []api.Node{roomy[4].Made}}) {
		t.Error("what is handed in changes")
	}
}

// empty tells whether nothing was written into the room behind the lists of kids and attributes.
func empty(f api.Forest) bool {
	return !slices.ContainsFunc(f.Nodes, func(n api.Node) bool {
		kids, attrs := n.Kids[len(n.Kids):cap(n.Kids)], n.Attrs[len(n.Attrs):cap(n.Attrs)]
		return slices.ContainsFunc(kids, func(h int) bool { return h != 0 }) || slices.ContainsFunc(attrs, func(a api.Attr) bool { return a != api.Attr{} })
	})
}

// P1, P2: whatever is given, each call answers.
func TestAnything(t *testing.T) {
	f, d := theatre(), sample.NewDice(18)
	any := func() int { return d.Below(len(f.Nodes)+4) - 2 }
	for range 3000 {
		var hand []api.Assign
		for range d.Below(3) {
			a := api.Assign{Slot: any()}
			for range d.Below(3) {
				a.Nodes = append(a.Nodes, any())
			}
			hand = append(hand, a)
		}
		c := api.Change{Kind: api.ChangeKind(d.Below(int(api.ChangeCount) + 2)), Node: any(), Parent: any(), Index: d.Below(4) - 1}
		asked(t, f, hand, any(), []int{any(), any()}[:d.Below(3)], []api.Change{c})
		shadow.Attach(f, any(), api.ShadowMode(d.Below(5)), false)
	}
	if !forest.Same(f, theatre()) {
		t.Error("the forest is changed")
	}
}

// stage is a forest of the greatest size: a host with half of the nodes as kids, and a shadow tree with slots for each of them, in one row or within one another.
func stage(deep, manual bool, name func(i int) string) (api.Forest, []api.Assign) {
	f := api.Forest{Nodes: []api.Node{
		{Kind: api.KindDocument, Doc: 1, HTML: true, Kids: some(2)},
		{Kind: api.KindElement, Name: html("div"), Parent: 1, Doc: 1, Shadow: 3},
		{Kind: api.KindShadow, Mode: api.ShadowOpen, Manual: manual, Host: 2, Doc: 1},
	}}
	hang := func(parent int, n api.Node) {
		n.Parent, n.Doc = parent, 1
		f.Nodes = append(f.Nodes, n)
		f.Nodes[parent-1].Kids = append(f.Nodes[parent-1].Kids, len(f.Nodes))
	}
	var hand []api.Assign
	over := 3
	for i := 0; len(f.Nodes)+2 <= api.MaxNodes; i++ {
		hang(over, api.Node{Kind: api.KindElement, Name: html("slot"), Attrs: []api.Attr{attr("name", name(i))}})
		if deep {
			over = len(f.Nodes)
		}
		hang(2, api.Node{Kind: api.KindElement, Name: html("p"), Attrs: []api.Attr{attr("slot", name(i))}})
		hand = append(hand, given(len(f.Nodes)-1, len(f.Nodes)))
	}
	return f, hand
}

// P1: the greatest forests, with MaxList changes, are seen to soon.
func TestGreat(t *testing.T) {
	started := time.Now()
	short := func(i int) string {
		return string(rune('a'+i%26)) + string(rune('a'+i/26%26)) + string(rune('a'+i/676))
	}
	for what, x := range map[string]struct {
		deep, manual bool
		name         func(int) string
	}{
		"flat": {false, false, short}, "deep": {true, false, short}, "by hand": {false, true, short}, "by hand, deep": {true, true, short},
		"of one name": {false, false, func(int) string { return "" }},
		"long":        {false, false, func(i int) string { return strings.Repeat("x", api.MaxValue-4) + short(i) }},
	} {
		f, hand := stage(x.deep, x.manual, x.name)
		kids := f.Nodes[1].Kids
		var changes []api.Change
		for i := range api.MaxList / 2 {
			h := kids[i%len(kids)]
			changes = append(changes, api.Change{Kind: api.ChangeRemove, Node: h, Parent: 2}, comes(h, 2, len(kids)-1))
		}
		got, why := shadow.Signals(f, hand, changes)
		if what == "of one name" {
			if why != api.OK || !slices.Equal(got, some(4)) {
				t.Errorf("%s: %d slots, error %d", what, len(got), why)
			}
		} else if why != api.OK || len(got) != len(kids) {
			t.Errorf("%s: %d slots, error %d", what, len(got), why)
		}
		if l, why := shadow.All(f, hand, 3); why != api.OK || len(l) != len(kids) {
			t.Errorf("%s: All: %d, error %d", what, len(l), why)
		}
	}
	if took := time.Since(started); took > time.Minute {
		t.Error("it takes too long:", took)
	}
}
