package forest_test

import (
	"slices"
	"testing"

	"canopy/api"
	"canopy/forest"
)

// fill writes over a list, and over the room behind it.
func fill[T any](l []T, v T) {
	l = l[:cap(l)]
	for i := range l {
		l[i] = v
	}
}

// spoil writes over all lists of a forest.
func spoil(f api.Forest) {
	for _, n := range f.Nodes[:cap(f.Nodes)] {
		spoilNode(n)
	}
	fill(f.Nodes, api.Node{Kind: 99})
}

func spoilNode(n api.Node) {
	fill(n.Data, 999)
	fill(n.Attrs, api.Attr{Value: "spoilt"})
	fill(n.Kids, 999)
}

func spoilChange(c api.Change) {
	fill(c.Data, 999)
	fill(c.Added, 999)
	fill(c.Removed, 999)
	spoilNode(c.Made)
}

// roomy has room behind each list, so that what is put behind one would be seen in the other's memory.
func roomy(f api.Forest) api.Forest {
	for i := range f.Nodes {
		n := &f.Nodes[i]
		n.Data, n.Attrs, n.Kids = slices.Grow(n.Data, 8), slices.Grow(n.Attrs, 8), slices.Grow(n.Kids, 8)
	}
	f.Nodes = slices.Grow(f.Nodes, 8)
	return f
}

func roomyChange(c api.Change) api.Change {
	c = cloneChange(c)
	c.Data, c.Added, c.Removed = slices.Grow(c.Data, 8), slices.Grow(c.Added, 8), slices.Grow(c.Removed, 8)
	c.Made = roomy(api.Forest{Nodes: []api.Node{c.Made}}).Nodes[0]
	return c
}

// 3.5: forests that are answered share no list with what is handed in, and what is handed in is left alone.
func TestNewForests(t *testing.T) {
	for _, c := range ordinary() {
		for what, do := range map[string]func(f api.Forest, c api.Change) api.Forest{
			"Apply": func(f api.Forest, c api.Change) api.Forest { g, _ := forest.Apply(f, c); return g },
			"All":   func(f api.Forest, c api.Change) api.Forest { g, _, _ := forest.All(f, []api.Change{c}); return g },
			"All of none": func(f api.Forest, _ api.Change) api.Forest {
				g, _, _ := forest.All(f, nil)
				return g
			},
			"Add": func(f api.Forest, _ api.Change) api.Forest {
				g, _, _ := forest.Add(f, api.Node{Kind: api.KindText, Data: api.Units{1}, Doc: 1})
				return g
			},
		} {
			f, x := roomy(wood()), roomyChange(c)
			g := do(f, x)
			want := clone(g)
			if len(want.Nodes) < 14 {
				t.Fatal(what, "is refused:", c)
			}
			spoil(f)
			spoilChange(x)
			if !forest.Same(g, want) {
				t.Errorf("%s of %+v: the answer changes with what was handed in", what, c)
			}
			f, x = roomy(wood()), roomyChange(c)
			spoil(do(f, x))
			if !forest.Same(f, wood()) || !sameChange(x, c) {
				t.Errorf("%s of %+v: what was handed in changes with the answer", what, c)
			}
		}
	}
}

// 3.5: no two lists of an answered forest share memory, not even those that were one when they were handed in.
func TestNoListShared(t *testing.T) {
	data, attrs := make(api.Units, 2, 9), make([]api.Attr, 1, 9)
	attrs[0] = attr("a")
	f := forest.New(false)
	for range 3 {
		f.Nodes = append(f.Nodes, api.Node{Kind: api.KindText, Data: data, Doc: 1},
			api.Node{Kind: api.KindElement, Name: local("e"), Attrs: attrs, Doc: 1})
	}
	made := api.Node{Kind: api.KindText, Data: data, Doc: 1}
	for range 2 {
		f, _, _ = forest.Add(f, made)
	}
	for i := range f.Nodes {
		fill(f.Nodes[i].Data, uint16(i))
		fill(f.Nodes[i].Attrs, api.Attr{Name: local("a"), Value: string(rune('a' + i))})
	}
	for i, n := range f.Nodes {
		if len(n.Data) > 0 && n.Data[0] != uint16(i) || len(n.Attrs) > 0 && n.Attrs[0].Value != string(rune('a'+i)) {
			t.Error("shared:", i+1, n.Data, n.Attrs)
		}
	}
}

// 3.5: a change that Undo answers is new memory.
func TestNewChanges(t *testing.T) {
	for _, c := range ordinary() {
		if c.Kind == api.ChangeMake || c.Kind == api.ChangeShadow {
			continue
		}
		f, x := roomy(wood()), roomyChange(c)
		back, why := forest.Undo(f, x)
		if why != api.OK {
			t.Fatal(c, why)
		}
		want := cloneChange(back)
		spoil(f)
		spoilChange(x)
		if !sameChange(back, want) {
			t.Errorf("%+v: the answer changes with what was handed in", c)
		}
		f, x = roomy(wood()), roomyChange(c)
		back, _ = forest.Undo(f, x)
		spoilChange(back)
		full := x
		full.Data, full.Added, full.Removed = x.Data[:cap(x.Data)], x.Added[:cap(x.Added)], x.Removed[:cap(x.Removed)]
		if !forest.Same(f, wood()) || !sameChange(x, c) || slices.Contains(full.Data, 999) || slices.Contains(full.Added, 999) || slices.Contains(full.Removed, 999) {
			t.Errorf("%+v: what was handed in changes with the answer", c)
		}
	}
	both := []int{6, 7}
	back, _ := forest.Undo(wood(), api.Change{Kind: api.ChangeTree, Added: both, Removed: both})
	fill(back.Added, 1)
	if !slices.Equal(back.Removed, []int{6, 7}) {
		t.Error("Added and Removed share memory")
	}
}
