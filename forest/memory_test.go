package forest_test

import (
	"slices"
	"testing"

	"canopy/api"
	"canopy/forest"
	"canopy/sample"
)

// 3.5: forests that are answered share no list with what is handed in, and what is handed in is left alone.
func TestNewForests(t *testing.T) {
	for _, c := range ordinary() {
		for what, do := range map[string]func(f api.Forest, c api.Change) api.Forest{
			"Apply": func(f api.Forest, c api.Change) api.Forest { g, _ := forest.Apply(f, c); return g },
			"All":   func(f api.Forest, c api.Change) api.Forest { g, _, _ := forest.All(f, []api.Change{c}); return g },
			"All of none": func(f api.Forest, _ api.Change) api.Forest {
				g, _, _ := forest.All(f, nil)
				return g
			},
			"Add": func(f api.Forest, _ api.Change) api.Forest {
				g, _, _ := forest.Add(f, api.Node{Kind: api.KindText, Data: api.Units{1}, Doc: 1})
				return g
			},
		} {
			f, x := sample.Roomy(wood()), sample.RoomyChange(c)
			g := do(f, x)
			want := sample.Copy(g)
			if len(want.Nodes) < 14 {
				t.Fatal(what, "is refused:", c)
			}
			sample.Spoil(f)
			sample.SpoilChange(x)
			if !forest.Same(g, want) {
				t.Errorf("%s of %+v: the answer changes with what was handed in", what, c)
			}
			f, x = sample.Roomy(wood()), sample.RoomyChange(c)
			sample.Spoil(do(f, x))
			if !forest.Same(f, wood()) || !sample.SameChange(x, c) || sample.Spoilt(f) || sample.SpoiltChange(x) {
				t.Errorf("%s of %+v: what was handed in changes with the answer", what, c)
			}
		}
	}
}

// 3.5: no two lists of an answered forest share memory, not even those that were one when they were handed in.
func TestNoListShared(t *testing.T) {
	data, attrs := make(api.Units, 2, 9), make([]api.Attr, 1, 9)
	attrs[0] = attr("a")
	f := forest.New(false)
	for range 3 {
		f.Nodes = append(f.Nodes, api.Node{Kind: api.KindText, Data: data, Doc: 1},
			api.Node{Kind: api.KindElement, Name: local("e"), Attrs: attrs, Doc: 1})
	}
	made := api.Node{Kind: api.KindText, Data: data, Doc: 1}
	for range 2 {
		f, _, _ = forest.Add(f, made)
	}
	for i := range f.Nodes {
		sample.Fill(f.Nodes[i].Data, uint16(i))
		sample.Fill(f.Nodes[i].Attrs, api.Attr{Name: local("a"), Value: string(rune('a' + i))})
	}
	for i, n := range f.Nodes {
		if len(n.Data) > 0 && n.Data[0] != uint16(i) || len(n.Attrs) > 0 && n.Attrs[0].Value != string(rune('a'+i)) {
			t.Error("shared:", i+1, n.Data, n.Attrs)
		}
	}
}

// 3.5: a change that Undo answers is new memory.
func TestNewChanges(t *testing.T) {
	for _, c := range ordinary() {
		if c.Kind == api.ChangeMake || c.Kind == api.ChangeShadow {
			continue
		}
		f, x := sample.Roomy(wood()), sample.RoomyChange(c)
		back, why := forest.Undo(f, x)
		if why != api.OK {
			t.Fatal(c, why)
		}
		want := sample.CopyChange(back)
		sample.Spoil(f)
		sample.SpoilChange(x)
		if !sample.SameChange(back, want) {
			t.Errorf("%+v: the answer changes with what was handed in", c)
		}
		f, x = sample.Roomy(wood()), sample.RoomyChange(c)
		back, _ = forest.Undo(f, x)
		sample.SpoilChange(back)
		if !forest.Same(f, wood()) || !sample.SameChange(x, c) || sample.Spoilt(f) || sample.SpoiltChange(x) {
			t.Errorf("%+v: what was handed in changes with the answer", c)
		}
	}
	both := []int{6, 7}
	back, _ := forest.Undo(wood(), api.Change{Kind: api.ChangeTree, Added: both, Removed: both})
	sample.Fill(back.Added, 1)
	if !slices.Equal(back.Removed, []int{6, 7}) {
		t.Error("Added and Removed share memory")
	}
}
