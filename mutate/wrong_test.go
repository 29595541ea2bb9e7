package mutate_test

import (
	"math"
	"slices"
	"testing"

	"canopy/api"
	"canopy/forest"
	"canopy/mutate"
	"canopy/sample"
)

// handled is a call by the handles that it has, and handles with which it is done, to the page.
type handled struct {
	call byHandles
	good []int
	zero int // the place of a handle that may be 0, -1 if there is none
}

type byHandles func(f api.Forest, h []int) (api.Forest, []api.Change, api.Errno)

// calls are all calls: of those with a list all handles behind the first one are in it.
func calls() map[string]handled {
	all := map[string]handled{
		"Insert": {func(f api.Forest, h []int) (api.Forest, []api.Change, api.Errno) {
			return mutate.Insert(f, h[0], h[1], h[2])
		}, []int{23, 3, 6}, 2},
		"Append": {func(f api.Forest, h []int) (api.Forest, []api.Change, api.Errno) {
			return mutate.Append(f, h[0], h[1])
		}, []int{23, 3}, -1},
		"Replace": {func(f api.Forest, h []int) (api.Forest, []api.Change, api.Errno) {
			return mutate.Replace(f, h[0], h[1], h[2])
		}, []int{23, 3, 6}, -1},
		"ReplaceAll": {func(f api.Forest, h []int) (api.Forest, []api.Change, api.Errno) {
			return mutate.ReplaceAll(f, h[0], h[1])
		}, []int{3, 15}, 1},
		"Remove": {func(f api.Forest, h []int) (api.Forest, []api.Change, api.Errno) {
			return mutate.Remove(f, h[0], h[1])
		}, []int{3, 6}, -1},
		"Adopt": {func(f api.Forest, h []int) (api.Forest, []api.Change, api.Errno) {
			return mutate.Adopt(f, h[0], h[1])
		}, []int{6, 20}, -1},
		"Normalize": {func(f api.Forest, h []int) (api.Forest, []api.Change, api.Errno) {
			return mutate.Normalize(f, h[0])
		}, []int{3}, -1},
		"SetContent": {func(f api.Forest, h []int) (api.Forest, []api.Change, api.Errno) {
			return mutate.SetContent(f, h[0], of("new"))
		}, []int{3}, -1},
	}
	for name, call := range bySome() {
		all[name] = handled{func(f api.Forest, h []int) (api.Forest, []api.Change, api.Errno) {
			return call(f, h[0], h[1:])
		}, []int{6, 23, 28, 15}, -1}
		all[name+" of one"] = handled{all[name].call, []int{6, 23}, -1}
		all[name+" at a root"] = handled{all[name].call, []int{17, 28, 29}, -1}
	}
	return all
}

// Words, 9.1 to 9.6: a forest that is not right is ErrForest, ahead of all else.
func TestWrongForest(t *testing.T) {
	var wrongs []api.Forest
	for _, turn := range []func(f *api.Forest){
		func(f *api.Forest) { f.Nodes[22].Doc = 0 },
		func(f *api.Forest) { f.Nodes[5].Kids = nil },
		func(f *api.Forest) { f.Nodes[2].Parent = 6 },
		func(f *api.Forest) { f.Nodes[2].Kids[1] = 99 },
		func(f *api.Forest) { f.Nodes[9].Host = 3 },
		func(f *api.Forest) { f.Nodes[27].Kind = 2 },
		func(f *api.Forest) { *f = stuffed(api.MaxNodes + 1) },
	} {
		f := page()
		turn(&f)
		wrongs = append(wrongs, f)
	}
	for name, c := range calls() {
		for _, f := range wrongs {
			refuses(t, name, got(c.call(f, c.good)), api.ErrForest)
			refuses(t, name+" of none", got(c.call(f, make([]int, len(c.good)))), api.ErrForest)
		}
		if a := got(c.call(page(), c.good)); a.why != api.OK {
			t.Errorf("%s in a right forest: %d", name, a.why)
		}
	}
}

// Words, 9.1 to 9.6: a handle of no node is ErrRange, wherever it stands.
func TestNoNode(t *testing.T) {
	f := page()
	for name, c := range calls() {
		for at := range c.good {
			for _, h := range []int{0, -1, len(f.Nodes) + 1, math.MaxInt, math.MinInt} {
				if h == 0 && at == c.zero {
					continue
				}
				handles := slices.Clone(c.good)
				handles[at] = h
				refuses(t, name, got(c.call(f, handles)), api.ErrRange)
				refuses(t, name+" of nothing", got(c.call(api.Forest{}, handles)), api.ErrRange)
			}
		}
	}
	for _, call := range []string{"Before", "After", "ReplaceWith"} {
		refuses(t, call+" at a root", got(bySome()[call](f, 23, some(0))), api.ErrRange)
		refuses(t, call+" at a root, one of some", got(bySome()[call](f, 23, some(28, 32))), api.ErrRange)
	}
	refuses(t, "a parent without kids, of no node", got(mutate.ReplaceAll(f, 5, 32)), api.ErrRange)
	refuses(t, "into no document, of no node", got(mutate.Adopt(f, 32, 3)), api.ErrRange)
	refuses(t, "a document, ahead of no node", got(mutate.Insert(f, 1, 5, 32)), api.ErrRange)
}

// P1, P2: whatever handles are given, each call answers, and beside an error nothing else; what is handed in stays as it is.
func TestAnyHandles(t *testing.T) {
	f := page()
	d := sample.NewDice(9)
	for name, c := range calls() {
		for range 400 {
			handles := make([]int, len(c.good))
			for i := range handles {
				handles[i] = d.Below(len(f.Nodes)+3) - 1
			}
			was := slices.Clone(handles)
			a := got(c.call(f, handles))
			if a.why != api.OK && (a.g.Nodes != nil || a.l != nil) {
				t.Errorf("%s of %v: beside the error %d: %v", name, handles, a.why, a.l)
			}
			if !slices.Equal(handles, was) || !forest.Same(f, page()) {
				t.Fatalf("%s of %v: what is handed in is changed", name, was)
			}
		}
	}
}

// 9.7: forests and changes that are answered are new memory, and the forest that is handed in is left alone.
func TestNewMemory(t *testing.T) {
	f := page()
	f.Nodes[7] = api.Node{Kind: api.KindText, Data: of("more"), Parent: 3, Doc: 1} // so that Normalize has something to do
	for name, c := range calls() {
		call := func(f api.Forest) (api.Forest, []api.Change) {
			g, l, why := c.call(f, c.good)
			if why != api.OK {
				t.Fatal(name, why)
			}
			return g, l
		}
		if s := sample.Sharing(f, call); s != "" {
			t.Errorf("%s: %s", name, s)
		}
	}
	for name, call := range map[string]func(f api.Forest) (api.Forest, []api.Change){
		"nothing done": func(f api.Forest) (api.Forest, []api.Change) { g, l, _ := mutate.Before(f, 23, nil); return g, l },
		"by itself":    func(f api.Forest) (api.Forest, []api.Change) { g, l, _ := mutate.Replace(f, 6, 3, 6); return g, l },
		"by a kid":     func(f api.Forest) (api.Forest, []api.Change) { g, l, _ := mutate.ReplaceAll(f, 3, 6); return g, l },
		"a text's": func(f api.Forest) (api.Forest, []api.Change) {
			g, l, _ := mutate.SetContent(f, 28, of("x"))
			return g, l
		},
	} {
		if s := sample.Sharing(f, call); s != "" {
			t.Errorf("%s: %s", name, s)
		}
	}
}

// 9.7: no two lists of one change are one.
func TestListsApart(t *testing.T) {
	for name, c := range calls() {
		_, l, _ := c.call(page(), c.good)
		for _, change := range l {
			removed := slices.Clone(change.Removed)
			sample.Fill(change.Added, 999)
			if !slices.Equal(change.Removed, removed) {
				t.Errorf("%s: Removed changes with Added", name)
			}
		}
	}
	_, l, _ := mutate.Replace(page(), 6, 3, 6)
	sample.Fill(l[2].Added, 999)
	if !slices.Equal(l[2].Removed, some(6)) {
		t.Error("by itself: Removed changes with Added")
	}
}

// 9.7: lists of nodes, and data, that are handed in are neither changed nor kept.
func TestNotKept(t *testing.T) {
	for name, call := range bySome() {
		for _, n := range []int{0, 1, 3} {
			nodes := append(make([]int, 0, 8), some(23, 28, 29)[:n]...)
			room := slices.Clone(nodes[:cap(nodes)])
			g, l, why := call(page(), 6, nodes)
			was, changesWere := sample.Copy(g), sample.CopyChanges(l)
			if why != api.OK || !slices.Equal(nodes[:cap(nodes)], room) {
				t.Errorf("%s of %d nodes: %d, or the list is changed", name, n, why)
			}
			sample.Fill(nodes, 999)
			if !forest.Same(g, was) || !sample.SameChanges(l, changesWere) {
				t.Errorf("%s of %d nodes: the answer changes with the list", name, n)
			}
		}
	}
	for _, h := range []int{4, 6, 23, 28} {
		u := append(make(api.Units, 0, 8), of("xyz")...)
		g, l, _ := mutate.SetContent(page(), h, u)
		was, changesWere := sample.Copy(g), sample.CopyChanges(l)
		sample.Fill(u, 999)
		if !forest.Same(g, was) || !sample.SameChanges(l, changesWere) {
			t.Errorf("SetContent(%d): the answer changes with the data", h)
		}
		u = append(make(api.Units, 0, 8), of("xyz")...)
		g, l, _ = mutate.SetContent(page(), h, u)
		sample.Spoil(g)
		sample.SpoilChanges(l)
		if !slices.Equal(u[:cap(u)], append(of("xyz"), 0, 0, 0, 0, 0)) {
			t.Errorf("SetContent(%d): the data change with the answer", h)
		}
	}
}
