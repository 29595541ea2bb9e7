package extract_test

import (
	"slices"
	"testing"

	"canopy/api"
	"canopy/bounds"
	"canopy/chardata"
	"canopy/clone"
	"canopy/extract"
	"canopy/forest"
	"canopy/order"
	"canopy/sample"
)

// The calls, each with all that it answers.

func extracted(f api.Forest, r api.Range) answer {
	g, fragment, left, l, why := extract.Extract(f, r)
	return answer{g, fragment, left, l, why}
}

func copied(f api.Forest, r api.Range) answer {
	g, fragment, l, why := extract.Copy(f, r)
	return answer{g, fragment, api.Range{}, l, why}
}

func deleted(f api.Forest, r api.Range) answer {
	g, left, l, why := extract.Delete(f, r)
	return answer{g, 0, left, l, why}
}

func inserted(f api.Forest, r api.Range, node int) answer {
	g, left, l, why := extract.Insert(f, r, node)
	return answer{g, 0, left, l, why}
}

func surrounded(f api.Forest, r api.Range, node int) answer {
	g, left, l, why := extract.Surround(f, r, node)
	return answer{g, 0, left, l, why}
}

// deed is a call, and what the model does in its stead.
type deed struct {
	call  func(f api.Forest, r api.Range, node int) answer
	model func(m *model, r api.Range, node int) (int, api.Range)
}

func deeds() map[string]deed {
	return map[string]deed{
		"Extract": {
			func(f api.Forest, r api.Range, _ int) answer { return extracted(f, r) },
			func(m *model, r api.Range, _ int) (int, api.Range) { return m.extract(r) },
		},
		"Copy": {
			func(f api.Forest, r api.Range, _ int) answer { return copied(f, r) },
			func(m *model, r api.Range, _ int) (int, api.Range) { return m.copyRange(r) },
		},
		"Delete": {
			func(f api.Forest, r api.Range, _ int) answer { return deleted(f, r) },
			func(m *model, r api.Range, _ int) (int, api.Range) { return m.delete(r) },
		},
		"Insert":   {inserted, (*model).insert},
		"Surround": {surrounded, (*model).surround},
	}
}

// meadow is a forest that is grown, with some texts and their like more.
func meadow(d *sample.Dice) api.Forest {
	f := sample.Thick(d, 4+d.Below(14))
	for range 4 + d.Below(6) {
		kind := []api.NodeKind{api.KindText, api.KindText, api.KindCData, api.KindComment}[d.Below(4)]
		g, h, why := forest.Add(f, api.Node{Kind: kind, Doc: f.Nodes[d.Below(len(f.Nodes))].Doc, Data: sample.Data(d)})
		if why != api.OK {
			continue
		}
		f = g
		for range 6 {
			c := sample.Insertion(d, f)
			c.Node = h
			if g, why := forest.Apply(f, c); why == api.OK {
				f = g
				break
			}
		}
	}
	return f
}

// someRange is a range that is valid, most often in a great tree; now and then it is collapsed.
func someRange(d *sample.Dice, f api.Forest) api.Range {
	var l []api.Bound
	for range 4 {
		root := must(order.Root(f, 1+d.Below(len(f.Nodes))))
		if other := must(bounds.Walk(f, root)); len(other) > len(l) {
			l = other
		}
	}
	i, j := d.Below(len(l)), d.Below(len(l))
	if d.Below(6) == 0 {
		j = i
	}
	return api.Range{Start: l[min(i, j)], End: l[max(i, j)]}
}

// wantFollowing sees that what follows from the promises holds of an answer that is not refused.
func wantFollowing(t *testing.T, name string, f api.Forest, r api.Range, node int, a answer) {
	t.Helper()
	wantAll(t, f, a)
	switch name {
	case "Extract":
		wantTakenOut(t, f, r, a)
		wantEqual(t, f, r)
	case "Copy":
		wantText(t, f, r, a)
		if !forest.Same(api.Forest{Nodes: a.f.Nodes[:len(f.Nodes)]}, f) {
			t.Error("Copy turns what there was")
		}
	case "Delete":
		wantTakenOut(t, f, r, a)
	case "Insert":
		wantPutIn(t, f, node, a)
	case "Surround":
		wantSurrounded(t, f, r, node, a)
	}
}

// wantAll sees that the changes come to the forest, which is right (17.6): in parts, since there may be more than MaxList.
func wantAll(t *testing.T, f api.Forest, a answer) {
	t.Helper()
	for part := range slices.Chunk(a.l, api.MaxList) {
		g, _, why := forest.All(f, part)
		if why != api.OK {
			t.Fatalf("the changes can't be done: error %d", why)
		}
		f = g
	}
	if why, at := forest.Check(a.f); why != api.OK || !forest.Same(f, a.f) {
		t.Errorf("the changes come to another forest, or it is not right: error %d at %d", why, at)
	}
}

// wantText sees that the fragment's content is the range's text (17.7), and that it hangs nowhere.
func wantText(t *testing.T, f api.Forest, r api.Range, a answer) {
	t.Helper()
	text := must(bounds.Text(f, r))
	content, _, why := chardata.Content(a.f, a.fragment)
	if n := a.f.Nodes[a.fragment-1]; why != api.OK || n.Kind != api.KindFragment || n.Doc != f.Nodes[r.Start.Node-1].Doc || n.Parent != 0 {
		t.Fatalf("no fragment: %+v, error %d", n, why)
	}
	if !slices.Equal(text, content) {
		t.Errorf("the fragment has %v, the range %v", content, text)
	}
}

// wantTakenOut sees that what lies in a range is in the fragment, if there is one, and that the rest is where it was (17.7).
func wantTakenOut(t *testing.T, f api.Forest, r api.Range, a answer) {
	t.Helper()
	if a.fragment != 0 {
		wantText(t, f, r, a)
	}
	root := must(order.Root(f, r.Start.Node))
	all := api.Range{Start: api.Bound{Node: root}, End: api.Bound{Node: root, Offset: must(bounds.Length(f, root))}}
	ahead, behind := api.Range{Start: all.Start, End: r.Start}, api.Range{Start: r.End, End: all.End}
	want := slices.Concat(must(bounds.Text(f, ahead)), must(bounds.Text(f, behind)))
	all.End.Offset = must(bounds.Length(a.f, root))
	if got := must(bounds.Text(a.f, all)); !slices.Equal(got, want) {
		t.Errorf("the tree has %v, not %v", got, want)
	}
	if is, why := bounds.Valid(a.f, a.left); !is || a.left.Start != a.left.End || why != api.OK {
		t.Errorf("the range that is left, %v, is not valid, or no point: error %d", a.left, why)
	}
	if got := must(bounds.Text(a.f, api.Range{Start: all.Start, End: a.left.Start})); !slices.Equal(got, must(bounds.Text(f, ahead))) {
		t.Errorf("ahead of the point that is left are %v", got)
	}
}

// wantEqual sees that Copy, and Extract behind it, have equal fragments (17.8).
func wantEqual(t *testing.T, f api.Forest, r api.Range) {
	t.Helper()
	c := copied(f, r)
	if c.why == api.ErrMany {
		return
	}
	e := extracted(c.f, r)
	if is, why := clone.Equal(e.f, c.fragment, e.fragment); !is || why != api.OK {
		t.Errorf("the fragments %q and %q are not equal: errors %d, %d, %d", sample.Text(e.f, c.fragment), sample.Text(e.f, e.fragment), c.why, e.why, why)
	}
}

// wantPutIn sees that a node that was inserted lies in the range, or begins where it ends (17.9); so do the kids of a fragment.
func wantPutIn(t *testing.T, f api.Forest, node int, a answer) {
	t.Helper()
	nodes := []int{node}
	if f.Nodes[node-1].Kind == api.KindFragment {
		nodes = f.Nodes[node-1].Kids
	}
	for _, h := range nodes {
		parent := a.f.Nodes[h-1].Parent
		if parent == 0 {
			t.Fatalf("%d hangs nowhere", h)
		}
		begins := api.Bound{Node: parent, Offset: must(order.Index(a.f, h))}
		is, _, why := bounds.Contains(a.f, a.left, h)
		if why != api.OK || !is && begins != a.left.End {
			t.Errorf("%d, at %v, is not in %v: error %d", h, begins, a.left, why)
		}
	}
}

// wantSurrounded sees that the answer selects the node, and that this has what lay in the range, if it stood in another tree (17.9).
func wantSurrounded(t *testing.T, f api.Forest, r api.Range, node int, a answer) {
	t.Helper()
	parent, at := a.f.Nodes[node-1].Parent, must(order.Index(a.f, node))
	if want := (api.Range{Start: api.Bound{Node: parent, Offset: at}, End: api.Bound{Node: parent, Offset: at + 1}}); a.left != want {
		t.Errorf("%v does not select %d", a.left, node)
	}
	if _, one, _ := order.Cmp(f, node, r.Start.Node); one {
		return
	}
	text := must(bounds.Text(f, r))
	if content, _, _ := chardata.Content(a.f, node); !slices.Equal(content, text) {
		t.Errorf("%d has %v, not %v", node, content, text)
	}
}

// Words, 17.1 to 17.4, 17.6 to 17.9: of forests that are grown each call does what the model does, and what follows holds.
func TestAsModel(t *testing.T) {
	done, refused := map[string]int{}, map[string]map[api.Errno]int{}
	for seed := range 500 {
		d := sample.NewDice(seed)
		f := meadow(d)
		for range 8 {
			r, node := someRange(d, f), 1+d.Below(len(f.Nodes))
			for name, deed := range deeds() {
				if refused[name] == nil {
					refused[name] = map[api.Errno]int{}
				}
				got := deed.call(f, r, node)
				want := modelled(f, func(m *model) (int, api.Range) { return deed.model(m, r, node) })
				if !got.same(want) {
					t.Fatalf("seed %d: %s of %v, %d of %+v\n%+v\n%+v", seed, name, r, node, f, got, want)
				}
				if got.why != api.OK {
					refused[name][got.why]++
					continue
				}
				wantFollowing(t, name, f, r, node, got)
				if t.Failed() {
					t.Fatalf("seed %d: %s of %v, %d of %+v\n%+v", seed, name, r, node, f, got)
				}
				if len(got.l) > 0 {
					done[name]++
				}
			}
		}
	}
	for name, most := range map[string]int{"Extract": 3000, "Copy": 3000, "Delete": 2000, "Insert": 300, "Surround": 100} {
		if done[name] < most {
			t.Errorf("%s: too few are done: %d, refused %v", name, done[name], refused[name])
		}
	}
	if s := refused["Surround"]; refused["Extract"][api.ErrHierarchy] < 20 || refused["Insert"][api.ErrHierarchy] < 300 || s[api.ErrState] < 300 || s[api.ErrNodeType] < 50 || s[api.ErrHierarchy] < 50 {
		t.Error("too few of a kind are refused:", refused)
	}
}

// Words, 17.1, 17.2: all ranges of small trees, which have what the chapter's words tell apart.
func TestAllRanges(t *testing.T) {
	for _, text := range []string{
		`a(b(#"xy" c(d ="z")) #"uv" e(f(-"w") ?"t") g)`, `- ! ?"x" a(b #"y") -"z"`, `! a(#"xy" #)`, `a(b(c(d(#"x")) #) e(f(g(#"y"))))`,
	} {
		f := sample.Tree(text)
		f.Nodes = append(f.Nodes, api.Node{Kind: api.KindElement, Name: api.Name{Local: "n"}, Doc: 1})
		l := must(bounds.Walk(f, 1))
		for i := range l {
			for j := i; j < len(l); j++ {
				r := api.Range{Start: l[i], End: l[j]}
				for name, deed := range deeds() {
					node := len(f.Nodes)
					got := deed.call(f, r, node)
					want := modelled(f, func(m *model) (int, api.Range) { return deed.model(m, r, node) })
					if !got.same(want) {
						t.Fatalf("%s: %s of %v\n%+v\n%+v", text, name, r, got, want)
					}
					if got.why == api.OK {
						wantFollowing(t, name, f, r, node, got)
					}
				}
				if t.Failed() {
					t.Fatalf("%s: %v", text, r)
				}
			}
		}
	}
}
