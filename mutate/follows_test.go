package mutate_test

import (
	"slices"
	"testing"

	"canopy/api"
	"canopy/chardata"
	"canopy/forest"
	"canopy/mutate"
	"canopy/order"
	"canopy/sample"
)

// deed is a call with its arguments, what the model does in its stead, and which nodes it is asked for.
type deed struct {
	name  string
	call  func(f api.Forest) (api.Forest, []api.Change, api.Errno)
	model func(m *model)
	asked []int // whose place may turn
	data  []int // whose data may turn
}

// leafy is a forest that is grown, with some texts more: many of them beside one another, some without data.
func leafy(d *sample.Dice) api.Forest {
	f := sample.Grow(d, 3+d.Below(12))
	for range 2 + d.Below(8) {
		g, h, why := forest.Add(f, api.Node{Kind: api.KindText, Doc: f.Nodes[d.Below(len(f.Nodes))].Doc, Data: sample.Data(d)})
		if why != api.OK {
			continue
		}
		f = g
		for range 6 {
			c := sample.Insertion(d, f)
			c.Node = h
			if g, why := forest.Apply(f, c); why == api.OK {
				f = g
				break
			}
		}
	}
	return f
}

func kidsOf(f api.Forest, h int) []int { return f.Nodes[h-1].Kids }

// comers are the nodes of a list, with the kids of the fragments among them.
func comers(f api.Forest, nodes ...int) []int {
	all := slices.Clone(nodes)
	for _, h := range nodes {
		if h != 0 && f.Nodes[h-1].Kind == api.KindFragment {
			all = append(all, kidsOf(f, h)...)
		}
	}
	return all
}

// list are some nodes: many of them siblings of h, or itself.
func list(d *sample.Dice, f api.Forest, h int) []int {
	var nodes []int
	for range d.Below(5) {
		near := []int{h}
		if parent := f.Nodes[h-1].Parent; parent != 0 && d.Below(2) == 0 {
			near = kidsOf(f, parent)
		}
		if d.Below(2) == 0 {
			nodes = append(nodes, near[d.Below(len(near))])
		} else {
			nodes = append(nodes, 1+d.Below(len(f.Nodes)))
		}
	}
	return nodes
}

// deeds are one of each call, at nodes as the dice fall.
func deeds(d *sample.Dice, f api.Forest) []deed {
	any := func() int { return 1 + d.Below(len(f.Nodes)) }
	node, parent, h := any(), any(), any()
	kids := append([]int{any()}, kidsOf(f, parent)...)
	child := kids[d.Below(len(kids))]
	ahead := append([]int{0}, kids...)[d.Below(len(kids)+1)]
	return append(plainDeeds(f, node, parent, child, ahead),
		append(contentDeeds(f, h, sample.Data(d)), listDeeds(f, h, list(d, f, h))...)...)
}

func plainDeeds(f api.Forest, node, parent, child, ahead int) []deed {
	return []deed{
		{"Insert", func(f api.Forest) (api.Forest, []api.Change, api.Errno) { return mutate.Insert(f, node, parent, ahead) },
			func(m *model) { m.insert(node, parent, ahead) }, comers(f, node), nil},
		{"Append", func(f api.Forest) (api.Forest, []api.Change, api.Errno) { return mutate.Append(f, node, parent) },
			func(m *model) { m.insert(node, parent, 0) }, comers(f, node), nil},
		{"Replace", func(f api.Forest) (api.Forest, []api.Change, api.Errno) {
			return mutate.Replace(f, node, parent, child)
		},
			func(m *model) { m.replace(node, parent, child) }, comers(f, node, child), nil},
		{"ReplaceAll", func(f api.Forest) (api.Forest, []api.Change, api.Errno) { return mutate.ReplaceAll(f, parent, node) },
			func(m *model) { m.replaceAll(parent, node) }, append(comers(f, node), kidsOf(f, parent)...), nil},
		{"ReplaceAll by none", func(f api.Forest) (api.Forest, []api.Change, api.Errno) { return mutate.ReplaceAll(f, parent, 0) },
			func(m *model) { m.replaceAll(parent, 0) }, kidsOf(f, parent), nil},
		{"Remove", func(f api.Forest) (api.Forest, []api.Change, api.Errno) { return mutate.Remove(f, parent, child) },
			func(m *model) { m.remove(parent, child) }, []int{child}, nil},
		{"Adopt", func(f api.Forest) (api.Forest, []api.Change, api.Errno) {
			return mutate.Adopt(f, node, f.Nodes[parent-1].Doc)
		},
			func(m *model) { m.adoptInto(node, m.node(parent).Doc) }, []int{node}, nil},
	}
}

func contentDeeds(f api.Forest, h int, data api.Units) []deed {
	within, _ := order.All(f, h)
	return []deed{
		{"Normalize", func(f api.Forest) (api.Forest, []api.Change, api.Errno) { return mutate.Normalize(f, h) },
			func(m *model) { m.normalize(h) }, within[1:], within[1:]},
		{"SetContent", func(f api.Forest) (api.Forest, []api.Change, api.Errno) { return mutate.SetContent(f, h, data) },
			func(m *model) { m.setContent(h, data) }, kidsOf(f, h), []int{h}},
	}
}

func listDeeds(f api.Forest, h int, nodes []int) []deed {
	asked := comers(f, nodes...)
	return []deed{
		{"Before", func(f api.Forest) (api.Forest, []api.Change, api.Errno) { return mutate.Before(f, h, nodes) },
			func(m *model) { m.before(h, nodes) }, asked, nil},
		{"After", func(f api.Forest) (api.Forest, []api.Change, api.Errno) { return mutate.After(f, h, nodes) },
			func(m *model) { m.after(h, nodes) }, asked, nil},
		{"ReplaceWith", func(f api.Forest) (api.Forest, []api.Change, api.Errno) { return mutate.ReplaceWith(f, h, nodes) },
			func(m *model) { m.replaceWith(h, nodes) }, append(asked, h), nil},
		{"Prepend", func(f api.Forest) (api.Forest, []api.Change, api.Errno) { return mutate.Prepend(f, h, nodes) },
			func(m *model) { m.prepend(h, nodes) }, asked, nil},
		{"AppendAll", func(f api.Forest) (api.Forest, []api.Change, api.Errno) { return mutate.AppendAll(f, h, nodes) },
			func(m *model) { m.appendAll(h, nodes) }, asked, nil},
		{"ReplaceKids", func(f api.Forest) (api.Forest, []api.Change, api.Errno) { return mutate.ReplaceKids(f, h, nodes) },
			func(m *model) { m.replaceKids(h, nodes) }, slices.Concat(asked, kidsOf(f, h)), nil},
	}
}

// 9.1 to 9.6, 9.8, 9.10, 9.12: of forests that are grown each call does what the model does, and what follows holds.
func TestAsModel(t *testing.T) {
	done, refused := map[string]int{}, map[string]int{}
	for seed := range 700 {
		d := sample.NewDice(seed)
		f := leafy(d)
		for range 6 {
			for _, it := range deeds(d, f) {
				g, l, why := it.call(f)
				want, wantChanges, wantWhy := modelled(f, it.model)
				if why != wantWhy || !forest.Same(g, want) || !sample.SameChanges(l, wantChanges) {
					t.Fatalf("seed %d: %s of %+v\n%+v, %d\n%+v, %d", seed, it.name, f, l, why, wantChanges, wantWhy)
				}
				if why != api.OK {
					refused[it.name]++
					continue
				}
				wantFollowing(t, it, f, g, l)
				if t.Failed() {
					t.Fatalf("seed %d: %s of %+v\n%+v", seed, it.name, f, l)
				}
				if len(l) > 0 {
					done[it.name]++
				}
			}
		}
	}
	for _, it := range deeds(sample.NewDice(1), forest.New(true)) {
		if done[it.name] < 200 {
			t.Errorf("%s: too few are done: %d, %d refused", it.name, done[it.name], refused[it.name])
		}
	}
}

func wantFollowing(t *testing.T, it deed, f, g api.Forest, l []api.Change) {
	t.Helper()
	wantAll(t, f, g, l)
	wantToldKids(t, f, g, l)
	wantNothingLost(t, it, f, g)
}

// wantAll sees that the changes come to the forest, which is right (9.8): in parts, since there may be more than MaxList (3.8).
func wantAll(t *testing.T, f, g api.Forest, l []api.Change) {
	t.Helper()
	for part := range slices.Chunk(l, api.MaxList) {
		next, _, why := forest.All(f, part)
		if why != api.OK {
			t.Errorf("9.8: the changes can't be done: error %d", why)
		}
		f = next
	}
	if why, at := forest.Check(g); !forest.Same(f, g) || why != api.OK {
		t.Errorf("9.8: the changes come to another forest; Check: %d, %d", why, at)
	}
}

// wantToldKids follows the ChangeTrees of each parent, and sees that its kids are those that it has in the end (9.10).
func wantToldKids(t *testing.T, f, g api.Forest, l []api.Change) {
	t.Helper()
	kids := make([][]int, len(g.Nodes))
	for i, n := range f.Nodes {
		kids[i] = slices.Clone(n.Kids)
	}
	for _, c := range l {
		if c.Kind != api.ChangeTree {
			continue
		}
		is := slices.DeleteFunc(kids[c.Parent-1], func(h int) bool { return slices.Contains(c.Removed, h) })
		at := len(is)
		if c.Next != 0 {
			at = slices.Index(is, c.Next)
		}
		if at < 0 {
			if len(c.Added) > 0 {
				t.Errorf("9.10: %d is ahead of %d, which is no kid", c.Added, c.Next)
			}
			continue
		}
		kids[c.Parent-1] = slices.Insert(is, at, c.Added...)
	}
	for i, n := range g.Nodes {
		if !slices.Equal(n.Kids, kids[i]) {
			t.Errorf("9.10: the kids of %d are told to be %v, but are %v", i+1, kids[i], n.Kids)
		}
	}
}

// wantNothingLost sees that all nodes are there, and that of those that were not asked for nothing is turned but where they are (9.12).
func wantNothingLost(t *testing.T, it deed, f, g api.Forest) {
	t.Helper()
	if len(g.Nodes) < len(f.Nodes) || len(g.Nodes) > len(f.Nodes)+1 {
		t.Errorf("9.12: %d nodes, there were %d", len(g.Nodes), len(f.Nodes))
		return
	}
	for i, n := range f.Nodes {
		m := g.Nodes[i]
		if n.Parent != m.Parent && !slices.Contains(it.asked, i+1) {
			t.Errorf("9.12: the parent of %d is turned", i+1)
		}
		if !slices.Equal(n.Data, m.Data) && !slices.Contains(it.data, i+1) {
			t.Errorf("9.12: the data of %d are turned", i+1)
		}
		n.Parent, n.Kids, n.Doc, n.Data = m.Parent, m.Kids, m.Doc, m.Data
		if !forest.Same(api.Forest{Nodes: []api.Node{n}}, api.Forest{Nodes: []api.Node{m}}) {
			t.Errorf("9.12: %d is turned", i+1)
		}
		if f.Nodes[i].Doc != m.Doc && !reached(g, it.asked, i+1) {
			t.Errorf("9.12: the Doc of %d is turned", i+1)
		}
	}
}

// reached tells whether a node is, or lies below, one of those that were asked for.
func reached(f api.Forest, asked []int, h int) bool {
	return slices.ContainsFunc(asked, func(a int) bool {
		is, _ := order.Holds(f, a, h)
		return is
	})
}

// 9.9: behind Insert what came stands right ahead of the child; behind Remove the child has no parent.
func TestThere(t *testing.T) {
	inserted, removed := 0, 0
	for seed := range 300 {
		d := sample.NewDice(seed)
		f := leafy(d)
		for range 30 {
			node, parent := 1+d.Below(len(f.Nodes)), 1+d.Below(len(f.Nodes))
			kids := append(slices.Clone(kidsOf(f, parent)), 0)
			child := kids[d.Below(len(kids))]
			if g, _, why := mutate.Insert(f, node, parent, child); why == api.OK && child != node {
				inserted++
				nodes := (&model{f: f}).nodes(node)
				is := append(slices.Clone(kidsOf(g, parent)), 0)
				at := slices.Index(is, child)
				if at < len(nodes) || !slices.Equal(is[at-len(nodes):at], nodes) {
					t.Fatalf("9.9: Insert(%d, %d, %d): %v", node, parent, child, is)
				}
			}
			if child == 0 {
				continue
			}
			g, _, why := mutate.Remove(f, parent, child)
			if why != api.OK || g.Nodes[child-1].Parent != 0 || slices.Contains(kidsOf(g, parent), child) {
				t.Fatalf("9.9: Remove(%d, %d): %d", parent, child, why)
			}
			removed++
		}
	}
	if inserted < 500 || removed < 500 {
		t.Error("too few:", inserted, removed)
	}
}

// exclusive tells whether a handle is of an exclusive text.
func exclusive(f api.Forest, h int) bool { return h != 0 && f.Nodes[h-1].Kind == api.KindText }

// 9.11: behind Normalize no exclusive text within is empty, none stands beside another one; the content is what it was; once more it does nothing.
func TestNormal(t *testing.T) {
	turned := 0
	for seed := range 400 {
		f := leafy(sample.NewDice(seed))
		for h := range len(f.Nodes) {
			h++
			g, l, why := mutate.Normalize(f, h)
			if why != api.OK {
				t.Fatal(why)
			}
			if len(l) > 0 {
				turned++
			}
			all, _ := order.All(g, h)
			for _, at := range all[1:] {
				if exclusive(g, at) && (len(g.Nodes[at-1].Data) == 0 || exclusive(g, (&model{f: g}).sibling(at, 1))) {
					t.Errorf("9.11: seed %d, Normalize(%d): %d is empty, or stands beside another one", seed, h, at)
				}
			}
			was, _, _ := chardata.Content(f, h)
			if is, _, _ := chardata.Content(g, h); !slices.Equal(is, was) {
				t.Errorf("9.11: seed %d, Normalize(%d): the content is turned", seed, h)
			}
			if again, l, why := mutate.Normalize(g, h); why != api.OK || len(l) > 0 || !forest.Same(again, g) {
				t.Errorf("9.11: seed %d, Normalize(%d) once more: %v, %d", seed, h, l, why)
			}
		}
	}
	if turned < 300 {
		t.Error("too few have something to do:", turned)
	}
}
