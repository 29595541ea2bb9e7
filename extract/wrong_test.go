package extract_test

import (
	"math"
	"testing"
	"time"

	"canopy/api"
	"canopy/bounds"
	"canopy/extract"
	"canopy/forest"
	"canopy/sample"
)

// wantRefused has every call refuse a range; those that have a node, whichever it is, so long as it is one.
func wantRefused(t *testing.T, what string, f api.Forest, r api.Range, no api.Errno, nodes ...int) {
	t.Helper()
	for name, deed := range deeds() {
		for _, node := range nodes {
			refuses(t, what+": "+name, deed.call(f, r, node), no)
		}
	}
}

// 17.1: a forest that is not right goes ahead of all.
func TestTornForest(t *testing.T) {
	for _, f := range sample.Torn() {
		for _, b := range []api.Bound{at(1, 0), at(0, 0), at(3, -1), at(99999, 1), at(math.MinInt, math.MaxInt)} {
			wantRefused(t, "both ends", f, from(b, b), api.ErrForest, 1, 3, 0, -1, 99)
			wantRefused(t, "one end", f, from(at(1, 0), b), api.ErrForest, 1, 3, 0, -1, 99)
		}
	}
}

// noNodes are handles of none of the stand.
func noNodes() []int { return []int{0, -1, loneCData + 1, math.MaxInt, math.MinInt} }

// 17.1: then a node that is none: an end's, or the node itself, ahead of an end that is no point, and of a range that is not valid.
func TestNoNode(t *testing.T) {
	f := stand()
	for _, h := range noNodes() {
		for _, offset := range []int{0, 1, -1, math.MaxInt, math.MinInt} {
			for _, other := range []api.Bound{at(1, 0), at(abc, 4), at(b, -1), at(h, 1)} {
				wantRefused(t, "Start's node", f, from(at(h, offset), other), api.ErrRange, 1, free, h)
				wantRefused(t, "End's node", f, from(other, at(h, offset)), api.ErrRange, 1, free, h)
			}
		}
		for _, r := range []api.Range{from(at(abc, 1), at(abc, 2)), from(at(abc, 4), at(p, 9)), from(at(p, 2), at(p, 1)), from(at(p, 0), at(free, 0)), point(comment, 1)} {
			refuses(t, "Insert of no node", inserted(f, r, h), api.ErrRange)
			refuses(t, "Surround with no node", surrounded(f, r, h), api.ErrRange)
		}
	}
	wantRefused(t, "no forest", api.Forest{}, point(1, 0), api.ErrRange, 1)
}

// 17.1: then an end that is no point, ahead of a range that is not valid.
func TestNoPoint(t *testing.T) {
	f := stand()
	for h := 1; h <= len(f.Nodes); h++ {
		length, _ := bounds.Length(f, h)
		for _, offset := range []int{-1, length + 1, math.MaxInt, math.MinInt} {
			for _, other := range []api.Bound{at(1, 0), at(p, 5), at(free, 0), at(h, offset)} {
				wantRefused(t, "Start", f, from(at(h, offset), other), api.ErrIndexSize, 1, free, h)
				wantRefused(t, "End", f, from(other, at(h, offset)), api.ErrIndexSize, 1, free, h)
			}
		}
	}
}

// 17.1: then a range that is not valid, ahead of all that is refused later.
func TestNotValid(t *testing.T) {
	f := stand()
	for _, r := range []api.Range{
		from(at(abc, 2), at(abc, 1)), from(at(p, 1), at(abc, 1)), from(at(inB, 0), at(b, 0)), from(at(1, 1), at(p, 0)),
		from(at(abc, 1), at(free, 0)), from(at(free, 0), at(abc, 1)), from(at(comment, 0), at(loneText, 0)), from(at(loneText, 0), at(loneCData, 0)),
	} {
		wantRefused(t, "not valid", f, r, api.ErrState, 1, p, abc, free, full, r.Start.Node)
	}
}

// packed is a forest with so many nodes that there is room for a few more.
func packed(f api.Forest, room int) api.Forest {
	for len(f.Nodes) < api.MaxNodes-room {
		f.Nodes = append(f.Nodes, api.Node{Kind: api.KindText, Doc: 1})
	}
	return f
}

// Words: where there is no room for a node more, that is refused, and what the words name ahead of it goes ahead; where there is just enough room, it is done.
func TestMany(t *testing.T) {
	inText, parts := from(at(abc, 1), at(abc, 2)), from(at(abc, 1), at(inB, 1))
	for _, x := range []struct {
		what  string
		f     api.Forest
		r     api.Range
		node  int
		makes map[string]int
	}{
		{"a point", stand(), point(p, 1), free, map[string]int{"Extract": 1, "Copy": 1, "Delete": 0, "Insert": 0, "Surround": 1}},
		{"in a text", stand(), inText, free, map[string]int{"Extract": 2, "Copy": 2, "Delete": 0, "Insert": 1, "Surround": 3}},
		{"wholes", stand(), from(at(p, 1), at(p, 3)), free, map[string]int{"Extract": 1, "Copy": 4, "Delete": 0, "Insert": 0, "Surround": 1}},
		{"parts", stand(), parts, free, map[string]int{"Extract": 5, "Copy": 5, "Delete": 0, "Insert": 1}},
	} {
		for name, makes := range x.makes {
			for room := range makes + 2 {
				a := deeds()[name].call(packed(x.f, room), x.r, x.node)
				if room < makes {
					refuses(t, x.what+": "+name, a, api.ErrMany)
				} else if a.why != api.OK {
					t.Errorf("%s: %s, room for %d: error %d", x.what, name, room, a.why)
				}
			}
		}
	}
}

// P3: where two errors hold at once, the one that the chapter names first.
func TestWhichFirst(t *testing.T) {
	doctyped := with(sample.Tree(`-"ab" ! p(#"cd")`), element("n"))
	whole, part := from(at(1, 0), at(1, 2)), from(at(3, 0), at(1, 3))
	for _, call := range []func(api.Forest, api.Range) answer{extracted, copied} {
		refuses(t, "a fragment too many, and a doctype", call(packed(doctyped, 0), whole), api.ErrMany)
		refuses(t, "room for a fragment, and a doctype", call(packed(doctyped, 1), whole), api.ErrHierarchy)
		refuses(t, "room for a fragment, and an end in a doctype", call(packed(doctyped, 1), part), api.ErrMany)
		refuses(t, "room for a copy, and an end in a doctype", call(packed(doctyped, 2), part), api.ErrHierarchy)
	}
	f := packed(stand(), 0)
	refuses(t, "partly contained, no room, a fragment", surrounded(f, from(at(b, 0), at(p, 3)), full), api.ErrState)
	refuses(t, "a fragment, no room", surrounded(f, from(at(p, 0), at(p, 1)), full), api.ErrNodeType)
	refuses(t, "no room, what has the range in it", surrounded(f, from(at(abc, 0), at(abc, 1)), p), api.ErrMany)
	refuses(t, "room for what is taken out, but not for what is split", surrounded(packed(stand(), 2), from(at(abc, 0), at(abc, 1)), free), api.ErrMany)
	refuses(t, "what has the range in it, no room for what is split", surrounded(packed(stand(), 2), from(at(abc, 0), at(abc, 1)), p), api.ErrHierarchy)
	refuses(t, "of a document, no room for what is split", inserted(f, point(abc, 1), 1), api.ErrHierarchy)
	refuses(t, "no room for what is split", inserted(f, point(abc, 1), free), api.ErrMany)
}

// P1, P2: whatever is given, each call answers, and beside an error nothing else; what is handed in stays as it is.
func TestAnything(t *testing.T) {
	f := stand()
	in := sample.Roomy(f)
	d := sample.NewDice(17)
	any := func() api.Bound { return at(d.Below(len(f.Nodes)+3)-1, d.Below(6)-1) }
	done := 0
	for range 4000 {
		r, node := from(any(), any()), d.Below(len(f.Nodes)+3)-1
		for name, deed := range deeds() {
			a := deed.call(in, r, node)
			if a.why != api.OK {
				refuses(t, name, a, a.why)
				continue
			}
			done++
		}
	}
	if done < 300 || !forest.Same(in, f) || sample.Spoilt(in) {
		t.Error("too few are done, or the forest that is handed in is changed:", done)
	}
}

// 17.5: forests and changes that are answered are new memory, and the forest that is handed in is left alone.
func TestNewMemory(t *testing.T) {
	f := stand()
	for what, x := range map[string]struct {
		r    api.Range
		node int
	}{
		"a point": {point(p, 1), free}, "in a text": {from(at(abc, 1), at(abc, 2)), free}, "a text at its beginning": {from(at(abc, 0), at(abc, 0)), full},
		"texts": {from(at(abc, 1), at(cdata, 1)), b}, "parts": {from(at(abc, 1), at(inB, 1)), fullKid}, "wholes": {from(at(p, 0), at(p, 5)), full}, "a fragment": {point(p, 5), full}, "nothing": {point(p, 2), blank},
	} {
		for name, deed := range deeds() {
			if deed.call(f, x.r, x.node).why != api.OK {
				continue
			}
			call := func(f api.Forest) (api.Forest, []api.Change) {
				a := deed.call(f, x.r, x.node)
				return a.f, a.l
			}
			if s := sample.Sharing(f, call); s != "" {
				t.Errorf("%s of %s: %s", name, what, s)
			}
		}
	}
}

// P1: the greatest forests are seen to soon, flat ones, deep ones and long ones; more changes than MaxList are answered.
func TestGreat(t *testing.T) {
	started := time.Now()
	flat := sample.Flat(api.MaxNodes - 2)
	flat.Nodes = append(flat.Nodes, api.Node{Kind: api.KindElement, Name: api.Name{Local: "n"}, Doc: 1})
	flat.Nodes[2].Data = make(api.Units, api.MaxData)
	all := len(flat.Nodes[1].Kids)
	a := extracted(flat, from(at(2, 0), at(2, all)))
	if a.why != api.OK || len(a.f.Nodes[a.fragment-1].Kids) != all || len(a.l) != 1+4*all {
		t.Errorf("flat: error %d, %d changes", a.why, len(a.l))
	}
	wantAll(t, flat, a)
	if a := deleted(flat, from(at(2, 1), at(2, all))); a.why != api.OK || len(a.f.Nodes[1].Kids) != 1 {
		t.Error("flat, Delete:", a.why)
	}
	if a := surrounded(flat, from(at(2, 0), at(2, all)), api.MaxNodes-1); a.why != api.OK || len(a.f.Nodes[api.MaxNodes-2].Kids) != all {
		t.Error("flat, Surround:", a.why)
	}
	half := sample.Flat(api.MaxNodes / 2)
	if a := copied(half, from(at(2, 0), at(2, api.MaxNodes/2-2))); a.why != api.OK || len(a.f.Nodes[a.fragment-1].Kids) != api.MaxNodes/2-2 {
		t.Error("flat, Copy:", a.why)
	}
	deep := sample.Deep(api.MaxNodes / 3)
	last := len(deep.Nodes)
	for _, call := range []func(api.Forest, api.Range) answer{extracted, copied} {
		if a := call(deep, from(at(last, 0), at(2, 1))); a.why != api.OK {
			t.Error("deep:", a.why)
		}
		refuses(t, "deep, no room", call(sample.Deep(api.MaxNodes), from(at(2, 0), at(api.MaxNodes, 0))), api.ErrMany)
	}
	if took := time.Since(started); took > time.Minute {
		t.Error("it takes too long:", took)
	}
}

// 17.3: a fragment of so many kids that there are more changes than MaxList: the range comes through all of them.
func TestGreatInsert(t *testing.T) {
	f := sample.Flat(api.MaxNodes - 5)
	kids := f.Nodes[1].Kids
	f.Nodes[1].Kids = nil
	host := len(f.Nodes) + 1
	f.Nodes = append(f.Nodes, api.Node{Kind: api.KindFragment, Doc: 1, Kids: kids}, api.Node{Kind: api.KindElement, Name: api.Name{Local: "b"}, Parent: 2, Doc: 1})
	for _, h := range kids {
		f.Nodes[h-1].Parent = host
	}
	f.Nodes[1].Kids = some(host + 1)
	g, left, l, why := extract.Insert(f, from(at(2, 0), at(host+1, 0)), host)
	if why != api.OK || len(l) != 2*len(kids)+2 || left != from(at(2, 0), at(host+1, 0)) || len(g.Nodes[1].Kids) != len(kids)+1 {
		t.Errorf("%d changes, %v, error %d", len(l), left, why)
	}
	g, left, _, why = extract.Insert(f, from(at(2, 0), at(2, 1)), host)
	if why != api.OK || left != from(at(2, 0), at(2, len(kids)+1)) || len(g.Nodes[1].Kids) != len(kids)+1 {
		t.Errorf("%v, error %d", left, why)
	}
}
