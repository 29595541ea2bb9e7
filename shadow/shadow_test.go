package shadow_test

import (
	"slices"
	"testing"

	"canopy/api"
	"canopy/forest"
	"canopy/sample"
	"canopy/shadow"
)

func html(local string) api.Name { return api.Name{Space: api.SpaceHTML, Local: local} }

func attr(local, value string) api.Attr {
	return api.Attr{Name: api.Name{Local: local}, Value: value}
}

// The nodes of the theatre: hosts, their kids, shadow roots, slots in them, and nodes that hang nowhere.
const (
	doc       = 1
	host      = 2  // a div
	toA       = 3  // its kids: of slot a,
	text      = 4  // a text,
	comment   = 5  // a comment,
	cdata     = 6  // CDATA,
	toB       = 7  // of slot b,
	toNone    = 8  // of a slot that there is not
	root      = 9  // its shadow root, open, with
	slotA     = 10 // a slot named a,
	box       = 11 // a div with
	secondA   = 12 // a second slot named a, and
	slotB     = 13 // a slot named b, with
	rest      = 14 // a slot without a name, with a text of its own, and
	ownText   = 15 //
	secondR   = 16 // a second one whose name is empty
	shut      = 17 // a section with
	shutRoot  = 18 // a closed shadow root, with
	shutSlot  = 19 // a slot, and
	shutKid   = 20 // a kid
	manual    = 21 // an article with
	byHand    = 22 // a shadow root whose slots are given by hand, with
	handA     = 23 // a slot named a,
	handB     = 24 // a slot, and
	handKid   = 25 // a kid of slot a,
	handText  = 26 // a text
	looseSlot = 27 // a slot that hangs nowhere, with
	looseKid  = 28 // a kid
	svgSlot   = 29 // an element slot of another namespace, in the open shadow root
	loose     = 30 // an element that hangs nowhere
)

func theatre() api.Forest {
	nodes := []api.Node{
		doc:       {Kind: api.KindDocument, HTML: true},
		host:      {Kind: api.KindElement, Name: html("div"), Parent: doc, Shadow: root},
		toA:       {Kind: api.KindElement, Name: html("p"), Attrs: []api.Attr{attr("slot", "a")}, Parent: host},
		text:      {Kind: api.KindText, Parent: host},
		comment:   {Kind: api.KindComment, Parent: host},
		cdata:     {Kind: api.KindCData, Parent: host},
		toB:       {Kind: api.KindElement, Name: api.Name{Local: "x"}, Attrs: []api.Attr{attr("name", "a"), attr("slot", "b")}, Parent: host},
		toNone:    {Kind: api.KindElement, Name: html("p"), Attrs: []api.Attr{attr("slot", "c")}, Parent: host},
		root:      {Kind: api.KindShadow, Mode: api.ShadowOpen, Host: host},
		slotA:     {Kind: api.KindElement, Name: html("slot"), Attrs: []api.Attr{attr("name", "a")}, Parent: root},
		box:       {Kind: api.KindElement, Name: html("div"), Parent: root},
		secondA:   {Kind: api.KindElement, Name: html("slot"), Attrs: []api.Attr{attr("slot", "b"), attr("name", "a")}, Parent: box},
		slotB:     {Kind: api.KindElement, Name: html("slot"), Attrs: []api.Attr{{Name: api.Name{Space: "urn:x", Local: "name"}, Value: "a"}, attr("name", "b")}, Parent: box},
		rest:      {Kind: api.KindElement, Name: html("slot"), Parent: slotB},
		ownText:   {Kind: api.KindText, Parent: rest},
		secondR:   {Kind: api.KindElement, Name: html("slot"), Attrs: []api.Attr{attr("name", "")}, Parent: slotB},
		shut:      {Kind: api.KindElement, Name: html("section"), Parent: host, Shadow: shutRoot},
		shutRoot:  {Kind: api.KindShadow, Mode: api.ShadowClosed, Host: shut},
		shutSlot:  {Kind: api.KindElement, Name: html("slot"), Parent: shutRoot},
		shutKid:   {Kind: api.KindElement, Name: html("p"), Parent: shut},
		manual:    {Kind: api.KindElement, Name: html("article"), Parent: host, Shadow: byHand},
		byHand:    {Kind: api.KindShadow, Mode: api.ShadowOpen, Manual: true, Host: manual},
		handA:     {Kind: api.KindElement, Name: html("slot"), Attrs: []api.Attr{attr("name", "a")}, Parent: byHand},
		handB:     {Kind: api.KindElement, Name: html("slot"), Parent: byHand},
		handKid:   {Kind: api.KindElement, Name: html("p"), Attrs: []api.Attr{attr("slot", "a")}, Parent: manual},
		handText:  {Kind: api.KindText, Parent: manual},
		looseSlot: {Kind: api.KindElement, Name: html("slot")},
		looseKid:  {Kind: api.KindElement, Name: html("p"), Parent: looseSlot},
		svgSlot:   {Kind: api.KindElement, Name: api.Name{Space: api.SpaceSVG, Local: "slot"}, Parent: root},
		loose:     {Kind: api.KindElement, Name: html("div")},
	}
	f := api.Forest{Nodes: nodes[1:]}
	for i := range f.Nodes {
		f.Nodes[i].Doc = doc
		if parent := f.Nodes[i].Parent; parent != 0 {
			f.Nodes[parent-1].Kids = append(f.Nodes[parent-1].Kids, i+1)
		}
	}
	return f
}

// some is a list of handles.
func some(h ...int) []int { return h }

func given(slot int, nodes ...int) api.Assign { return api.Assign{Slot: slot, Nodes: nodes} }

func sameAssign(a, b api.Assign) bool { return a.Slot == b.Slot && slices.Equal(a.Nodes, b.Nodes) }

func sameHand(a, b []api.Assign) bool { return slices.EqualFunc(a, b, sameAssign) }

func wantAssigned(t *testing.T, f api.Forest, hand []api.Assign, slot int, nodes ...int) {
	t.Helper()
	if got, why := shadow.Assigned(f, hand, slot); why != api.OK || !slices.Equal(got, nodes) {
		t.Errorf("Assigned(%d): %v, error %d; want %v", slot, got, why, nodes)
	}
}

func wantSlot(t *testing.T, f api.Forest, hand []api.Assign, h int, open bool, slot int) {
	t.Helper()
	if got, why := shadow.Slot(f, hand, h, open); why != api.OK || got != slot {
		t.Errorf("Slot(%d, %v): %d, error %d; want %d", h, open, got, why, slot)
	}
}

func wantSignals(t *testing.T, what string, f api.Forest, hand []api.Assign, changes []api.Change, slots ...int) {
	t.Helper()
	if got, why := shadow.Signals(f, hand, changes); why != api.OK || !slices.Equal(got, slots) {
		t.Errorf("%s: Signals: %v, error %d; want %v", what, got, why, slots)
	}
}

// P18.1: an element has a shadow root of each mode, by hand or not: one change makes it.
func TestAttach(t *testing.T) {
	f := theatre()
	for _, h := range []int{box, toA, loose, shutKid} {
		for _, mode := range []api.ShadowMode{api.ShadowOpen, api.ShadowClosed} {
			for _, manual := range []bool{false, true} {
				g, l, made, why := shadow.Attach(f, h, mode, manual)
				want := []api.Change{{Kind: api.ChangeShadow, Node: h, Other: loose + 1, Made: api.Node{Kind: api.KindShadow, Mode: mode, Manual: manual}}}
				behind, _, no := forest.All(f, want)
				if why != api.OK || no != api.OK || made != loose+1 || !sample.SameChanges(l, want) || !forest.Same(g, behind) {
					t.Fatalf("Attach(%d): %+v, %d, error %d", h, l, made, why)
				}
				if n := g.Nodes[made-1]; n.Kind != api.KindShadow || n.Host != h || n.Mode != mode || n.Manual != manual || g.Nodes[h-1].Shadow != made {
					t.Errorf("Attach(%d): %+v", h, n)
				}
			}
		}
	}
}

// P18.1: which names may have a shadow root: those that the chapter of names has, and those of custom elements.
func TestAttachNames(t *testing.T) {
	for local, want := range map[string]api.Errno{
		"article": api.OK, "aside": api.OK, "blockquote": api.OK, "body": api.OK, "div": api.OK, "footer": api.OK, "h1": api.OK, "h6": api.OK, "header": api.OK, "main": api.OK, "nav": api.OK, "p": api.OK, "section": api.OK, "span": api.OK, "my-box": api.OK,
		"a": api.ErrUnsupported, "slot": api.ErrUnsupported, "DIV": api.ErrUnsupported, "h7": api.ErrUnsupported, "font-face": api.ErrUnsupported, "My-box": api.ErrUnsupported,
	} {
		f := theatre()
		f.Nodes[loose-1].Name.Local = local
		_, l, made, why := shadow.Attach(f, loose, api.ShadowOpen, false)
		if why != want || (why == api.OK) != (made == loose+1) || (why == api.OK) != (len(l) == 1) {
			t.Errorf("Attach to %s: %d, error %d", local, made, why)
		}
	}
}

// P18.11: an element has one shadow root: the second Attach is refused, whatever its mode.
func TestAttachTwice(t *testing.T) {
	f, _, _, why := shadow.Attach(theatre(), loose, api.ShadowClosed, true)
	if why != api.OK {
		t.Fatal(why)
	}
	for _, h := range []int{loose, host, shut, manual} {
		for _, mode := range []api.ShadowMode{api.ShadowOpen, api.ShadowClosed} {
			if g, l, made, why := shadow.Attach(f, h, mode, false); why != api.ErrUnsupported || g.Nodes != nil || l != nil || made != 0 {
				t.Errorf("Attach(%d): error %d", h, why)
			}
		}
	}
}

// Words, P18.4: by their names: the first slot of a name; without a name, and with an empty one, is the same.
func TestByName(t *testing.T) {
	f := theatre()
	for h, slot := range map[int]int{toA: slotA, text: rest, cdata: rest, toB: slotB, shut: rest, manual: rest, shutKid: shutSlot, comment: 0, toNone: 0, host: 0, root: 0, doc: 0, slotA: 0, rest: 0, ownText: 0, looseKid: 0, loose: 0, box: 0} {
		wantSlot(t, f, nil, h, false, slot)
	}
	for slot, nodes := range map[int][]int{slotA: some(toA), slotB: some(toB), rest: some(text, cdata, shut, manual), shutSlot: some(shutKid), secondA: nil, secondR: nil, looseSlot: nil} {
		wantAssigned(t, f, nil, slot, nodes...)
	}
	f.Nodes[slotA-1].Attrs[0].Value = "A"
	wantSlot(t, f, nil, toA, false, secondA)
	wantAssigned(t, f, nil, secondA, toA)
	wantAssigned(t, f, nil, slotA)
	f.Nodes[rest-1].Attrs = []api.Attr{attr("name", "c")}
	wantSlot(t, f, nil, text, false, secondR)
	wantAssigned(t, f, nil, rest, toNone)
}

// Words: a slot is an HTML element, and attributes with a namespace name nothing.
func TestNamesWithSpaces(t *testing.T) {
	f := theatre()
	if _, why := shadow.Assigned(f, nil, svgSlot); why != api.ErrType {
		t.Error("an SVG slot: error", why)
	}
	f.Nodes[slotA-1].Attrs[0].Name.Space = "urn:x"
	f.Nodes[toB-1].Attrs[1].Name.Space = "urn:x"
	wantAssigned(t, f, nil, slotA, text, cdata, toB, shut, manual)
	wantAssigned(t, f, nil, secondA, toA)
	wantAssigned(t, f, nil, rest)
}

// P18.4: those outside are told of slots in open trees alone.
func TestOpen(t *testing.T) {
	f, hand := theatre(), []api.Assign{given(handB, handKid)}
	wantSlot(t, f, hand, toA, true, slotA)
	wantSlot(t, f, hand, text, true, rest)
	wantSlot(t, f, hand, shutKid, true, 0)
	wantSlot(t, f, hand, shutKid, false, shutSlot)
	wantSlot(t, f, hand, handKid, true, handB)
	f.Nodes[byHand-1].Mode = api.ShadowClosed
	wantSlot(t, f, hand, handKid, true, 0)
	wantSlot(t, f, hand, handKid, false, handB)
	wantAssigned(t, f, hand, handB, handKid)
}

// Words, P18.4: in a Manual shadow root names do not count: what a slot was given by hand does, in that order, if it is a kid of the host.
func TestByHand(t *testing.T) {
	f := theatre()
	wantSlot(t, f, nil, handKid, false, 0)
	wantAssigned(t, f, nil, handA)
	hand := []api.Assign{given(handB, handText, toA, handKid, manual), given(handA, text)}
	for h, slot := range map[int]int{handKid: handB, handText: handB, toA: slotA, text: rest, manual: rest} {
		wantSlot(t, f, hand, h, false, slot)
	}
	wantAssigned(t, f, hand, handB, handText, handKid)
	wantAssigned(t, f, hand, handA)
	// what was given to slots that are not in that tree, or in one where names count, is assigned to none of them
	hand = []api.Assign{given(slotA, handKid), given(looseSlot, handText), given(rest, toA)}
	wantSlot(t, f, hand, handKid, false, 0)
	wantSlot(t, f, hand, handText, false, 0)
	wantSlot(t, f, hand, toA, false, slotA)
	wantAssigned(t, f, hand, slotA, toA)
	wantAssigned(t, f, hand, rest, text, cdata, shut, manual)
	// a node that is no kid of the host any more is still given, but not assigned
	hand = []api.Assign{given(handA, handKid, handText)}
	g, why := forest.Apply(f, api.Change{Kind: api.ChangeRemove, Node: handKid, Parent: manual, Index: 0})
	if why != api.OK {
		t.Fatal(why)
	}
	wantAssigned(t, g, hand, handA, handText)
	wantSlot(t, g, hand, handKid, false, 0)
}

// P18.4: All has the slots within a node, in tree order, also those to which nothing is assigned.
func TestAll(t *testing.T) {
	f, hand := theatre(), []api.Assign{given(handB, handKid)}
	for h, want := range map[int][]api.Assign{
		root:      {given(slotA, toA), given(secondA), given(slotB, toB), given(rest, text, cdata, shut, manual), given(secondR)},
		box:       {given(secondA), given(slotB, toB), given(rest, text, cdata, shut, manual), given(secondR)},
		slotB:     {given(slotB, toB), given(rest, text, cdata, shut, manual), given(secondR)},
		rest:      {given(rest, text, cdata, shut, manual)},
		byHand:    {given(handA), given(handB, handKid)},
		shutRoot:  {given(shutSlot, shutKid)},
		looseSlot: {given(looseSlot)},
		host:      nil, doc: nil, ownText: nil, manual: nil,
	} {
		if got, why := shadow.All(f, hand, h); why != api.OK || !sameHand(got, want) {
			t.Errorf("All(%d): %v, error %d; want %v", h, got, why, want)
		}
	}
}

// P18.3: a slot is given nodes, which no other one has any more; its entry stands last, and the others in order.
func TestGive(t *testing.T) {
	f := theatre()
	hand := []api.Assign{given(slotA, toA, text), given(handA, handKid), given(rest), given(handB, handText, toB)}
	for _, x := range []struct {
		what  string
		slot  int
		nodes []int
		want  []api.Assign
	}{
		{"of another slot's", handA, some(text, toB), []api.Assign{given(slotA, toA), given(rest), given(handB, handText), given(handA, text, toB)}},
		{"its own, turned round", slotA, some(text, toA), []api.Assign{given(handA, handKid), given(rest), given(handB, handText, toB), given(slotA, text, toA)}},
		{"some of its own", slotA, some(text), []api.Assign{given(handA, handKid), given(rest), given(handB, handText, toB), given(slotA, text)}},
		{"a node twice", rest, some(toB, cdata, toB, cdata, toA), []api.Assign{given(slotA, text), given(handA, handKid), given(handB, handText), given(rest, toB, cdata, toA)}},
		{"none", handB, nil, []api.Assign{given(slotA, toA, text), given(handA, handKid), given(rest), given(handB)}},
		{"a slot more", secondA, some(handKid), []api.Assign{given(slotA, toA, text), given(handA), given(rest), given(handB, handText, toB), given(secondA, handKid)}},
		{"a slot more, none", looseSlot, some(), []api.Assign{given(slotA, toA, text), given(handA, handKid), given(rest), given(handB, handText, toB), given(looseSlot)}},
		{"a slot, itself", looseSlot, some(looseSlot), append(slices.Clone(hand), given(looseSlot, looseSlot))},
	} {
		got, why := shadow.Give(f, hand, x.slot, x.nodes)
		if why != api.OK || !sameHand(got, x.want) {
			t.Errorf("%s: %v, error %d; want %v", x.what, got, why, x.want)
		}
		if again, why := shadow.Give(f, got, x.slot, x.nodes); why != api.OK || !sameHand(again, got) || shadow.Check(f, got) != api.OK {
			t.Errorf("%s, once more: %v, error %d", x.what, again, why)
		}
	}
	if got, why := shadow.Give(f, nil, handA, some(handKid, handText)); why != api.OK || !sameHand(got, []api.Assign{given(handA, handKid, handText)}) {
		t.Error(got, why)
	}
}

// The chapter's example.
func TestExample(t *testing.T) {
	f := api.Forest{Nodes: []api.Node{
		{Kind: api.KindDocument, Kids: some(2), Doc: 1, HTML: true},
		{Kind: api.KindElement, Name: html("div"), Kids: some(3, 4), Parent: 1, Doc: 1},
		{Kind: api.KindText, Parent: 2, Doc: 1},
		{Kind: api.KindElement, Name: html("p"), Attrs: []api.Attr{attr("slot", "a")}, Parent: 2, Doc: 1},
	}}
	f, _, made, why := shadow.Attach(f, 2, api.ShadowOpen, false)
	if made != 5 || why != api.OK {
		t.Fatal(made, why)
	}
	for i, attrs := range [][]api.Attr{{attr("name", "a")}, nil} {
		g, h, _ := forest.Add(f, api.Node{Kind: api.KindElement, Name: html("slot"), Attrs: attrs, Doc: 1})
		if f, why = forest.Apply(g, api.Change{Kind: api.ChangeInsert, Node: h, Parent: 5, Index: i}); why != api.OK {
			t.Fatal(why)
		}
	}
	wantSlot(t, f, nil, 4, true, 6)
	wantSlot(t, f, nil, 3, true, 7)
	if l, why := shadow.All(f, nil, 5); why != api.OK || !sameHand(l, []api.Assign{given(6, 4), given(7, 3)}) {
		t.Error(l, why)
	}
	wantSignals(t, "4 goes", f, nil, []api.Change{{Kind: api.ChangeRemove, Node: 4, Parent: 2, Index: 1}}, 6)
	if _, _, _, why := shadow.Attach(f, 2, api.ShadowOpen, false); why != api.ErrUnsupported {
		t.Error(why)
	}
	f.Nodes[3].Name = html("a")
	if _, _, _, why := shadow.Attach(f, 4, api.ShadowOpen, false); why != api.ErrUnsupported {
		t.Error(why)
	}
}
