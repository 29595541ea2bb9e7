package sample_test

import (
	"slices"
	"testing"

	"canopy/api"
	"canopy/forest"
	"canopy/sample"
)

// pair is a document with an element of an attribute, which has a text.
func pair() api.Forest {
	return api.Forest{Nodes: []api.Node{
		{Kind: api.KindDocument, Kids: []int{2}, Doc: 1},
		{Kind: api.KindElement, Name: api.Name{Local: "a"}, Attrs: []api.Attr{{Name: api.Name{Local: "x"}}}, Parent: 1, Kids: []int{3}, Doc: 1},
		{Kind: api.KindText, Data: api.Units{1, 2}, Parent: 2, Doc: 1},
	}}
}

func told() []api.Change {
	return []api.Change{
		{Kind: api.ChangeData, Node: 3, Data: api.Units{1}},
		{Kind: api.ChangeTree, Parent: 2, Added: []int{3}, Removed: []int{3}},
	}
}

// Copies are the same, with room behind lists or not, and stay so when the other one is written over.
func TestCopies(t *testing.T) {
	for _, copied := range []func(api.Forest) api.Forest{sample.Copy, sample.Roomy} {
		f := pair()
		g := copied(f)
		sample.Spoil(f)
		if !forest.Same(g, pair()) || sample.Spoilt(g) || forest.Same(f, g) || !sample.Spoilt(f) {
			t.Error(f, g)
		}
	}
	l := told()
	m := sample.CopyChanges(l)
	roomy := sample.RoomyChange(l[1])
	sample.SpoilChange(l[1])
	if !sample.SpoiltChange(l[1]) || !sample.SameChanges(m, told()) || !sample.SameChange(roomy, told()[1]) {
		t.Error(l, m, roomy)
	}
	sample.SpoilChanges(m)
	if sample.SameChanges(m, told()) || sample.SameChanges(told(), told()[:1]) {
		t.Error(m)
	}
}

// What is written behind a list is seen.
func TestRoom(t *testing.T) {
	f := sample.Roomy(pair())
	for what, write := range map[string]func(){
		"nodes": func() { sample.Spoil(api.Forest{Nodes: f.Nodes[3:]}) },
		"kids":  func() { sample.Fill(f.Nodes[1].Kids[1:], 999) },
		"data":  func() { sample.Fill(f.Nodes[2].Data[2:], 999) },
		"attrs": func() { sample.Fill(f.Nodes[1].Attrs[1:], api.Attr{Value: "spoilt"}) },
	} {
		f = sample.Roomy(pair())
		write()
		if !sample.Spoilt(f) || !forest.Same(f, pair()) {
			t.Error(what)
		}
	}
}

// Whatever is shared is told; where all is new, nothing is.
func TestSharing(t *testing.T) {
	fresh := func(f api.Forest) (api.Forest, []api.Change) { return sample.Copy(f), told() }
	if s := sample.Sharing(pair(), fresh); s != "" {
		t.Error(s)
	}
	for what, call := range map[string]func(api.Forest) (api.Forest, []api.Change){
		"the forest itself": func(f api.Forest) (api.Forest, []api.Change) { return f, nil },
		"a node's list":     func(f api.Forest) (api.Forest, []api.Change) { return api.Forest{Nodes: slices.Clone(f.Nodes)}, nil },
		"a change's list": func(f api.Forest) (api.Forest, []api.Change) {
			return sample.Copy(f), []api.Change{{Data: f.Nodes[2].Data}}
		},
		"the room behind a list": func(f api.Forest) (api.Forest, []api.Change) {
			return sample.Copy(f), []api.Change{{Data: append(f.Nodes[2].Data[2:], 1)}}
		},
		"a list of both answers": func(f api.Forest) (api.Forest, []api.Change) {
			g := sample.Copy(f)
			return g, []api.Change{{Data: g.Nodes[2].Data}}
		},
		"a list of two changes": func(f api.Forest) (api.Forest, []api.Change) {
			both := []int{1}
			return sample.Copy(f), []api.Change{{Added: both}, {Removed: both}}
		},
		"a list of two nodes": func(f api.Forest) (api.Forest, []api.Change) {
			g := sample.Copy(f)
			g.Nodes = append(g.Nodes, g.Nodes[2])
			return g, nil
		},
	} {
		if sample.Sharing(pair(), call) == "" {
			t.Error("not told:", what)
		}
	}
}
