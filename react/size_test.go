package react_test

import (
	"strings"
	"testing"

	"canopy/api"
	"canopy/react"
	"canopy/sample"
)

// crowd is a document with an element, and in that one with so many x-a that there are as many nodes as may be; and changes, as many as may be, by which that one goes and comes again and again.
func crowd() (api.Forest, []api.Change) {
	f := sample.Flat(api.MaxNodes)
	for i := range f.Nodes[2:] {
		n := &f.Nodes[i+2]
		n.Kind, n.Name = api.KindElement, api.Name{Space: api.SpaceHTML, Local: "x-a"}
		if i > 0 {
			n.Parent = 3
		}
	}
	f.Nodes[2].Kids, f.Nodes[1].Kids = f.Nodes[1].Kids[1:], []int{3}
	var changes []api.Change
	for len(changes) < api.MaxList {
		changes = append(changes, removing(3, 2, 0), inserting(3, 2, 0))
	}
	return f, changes
}

// definitions are as many as may be, with names as long as may be, which observe as much as may be.
func definitions() api.Registry {
	long := strings.Repeat("a", api.MaxName-8)
	var r api.Registry
	for i := range api.MaxDefinitions {
		d := api.Definition{Name: "x-" + long + string(rune('b'+i/16)) + string(rune('b'+i%16)), Constructor: i + 1}
		for j := range api.MaxAttrs {
			d.Observed = append(d.Observed, long+string(rune('a'+j/8))+string(rune('a'+j%8)))
		}
		d.Local = d.Name
		r.Definitions = append(r.Definitions, d)
	}
	return r
}

// P26.4: as many elements, changes and definitions as may be, of which none is told of anything: it does not take long.
func TestMostOfAll(t *testing.T) {
	f, changes := crowd()
	some := api.Reacts{Queues: []api.ReactQueue{queue(9, api.MaxReactions)}}
	for range api.MaxStack {
		some.Stack = append(some.Stack, numbers(api.MaxReactions, 9))
	}
	reg := definitions()
	for h := range f.Nodes {
		e := api.Custom{Node: h + 1, State: api.CustomState(h % 4)}
		if e.State >= api.StateFailed {
			e.Definition = reg.Definitions[len(reg.Definitions)-1].Name
		}
		reg.Elements = append(reg.Elements, e)
	}
	s, seen, why := react.Fold(f, some, reg, changes)
	if why != api.OK || seen || !sample.SameReacts(s, some) {
		t.Error(seen, why)
	}
}

// P26.4: as many reactions as may be by one change, and one more.
func TestMostReactions(t *testing.T) {
	f, changes := crowd()
	reg := wanting()
	for h := 3; h <= api.MaxNodes; h++ {
		reg.Elements = append(reg.Elements, api.Custom{Node: h, State: api.StateCustom, Definition: "x-a"})
	}
	s, seen, why := react.Fold(f, api.Reacts{Queues: []api.ReactQueue{queue(1, 2)}}, reg, changes[:1])
	if why != api.OK || !seen || len(s.Queues) != api.MaxReactions-1 || len(s.Backup) != api.MaxReactions-2 {
		t.Error("all:", len(s.Queues), seen, why)
	}
	for what, full := range map[string]api.Reacts{
		"too many":              {Queues: []api.ReactQueue{queue(1, 3)}},
		"a list that is full":   {Stack: lists(numbers(3, 1))},
		"a Backup that is full": {Backup: numbers(3, 1)},
	} {
		if why := errorOfFold(f, full, reg, changes[:1]...); why != api.ErrMany {
			t.Errorf("%s: error %d", what, why)
		}
	}
}

// P26.4: each kind of change that tells something is refused where there is no room; what was told ahead of it is not answered either.
func TestNoRoom(t *testing.T) {
	f := sample.Cast("a(x(y)) ~(x) ~(y)")
	f.Nodes = append(f.Nodes, api.Node{Kind: api.KindDocument, Doc: 9})
	attr := api.Change{Kind: api.ChangeAttr, Node: 3, Name: local("p"), Has: true}
	full := api.Reacts{Queues: []api.ReactQueue{queue(1, api.MaxReactions-1)}}
	for what, l := range map[string][]api.Change{
		"an attribute": {attr, {Kind: api.ChangeAttr, Node: 3, Name: local("q"), Has: true}},
		"removed":      {attr, removing(3, 2, 0)},
		"inserted":     {attr, removing(6, 5, 0), inserting(6, 2, 0)},
		"upgraded":     {attr, removing(8, 7, 0), inserting(8, 2, 0)},
		"adopted":      {attr, {Kind: api.ChangeAdopt, Node: 5, Doc: 9}},
	} {
		if why := errorOfFold(f, full, wanting(3, 6), l...); why != api.ErrMany {
			t.Errorf("%s: error %d", what, why)
		}
		if why := errorOfFold(f, full, wanting(3, 6), l[:1]...); why != api.OK {
			t.Errorf("ahead of it: error %d", why)
		}
	}
}
