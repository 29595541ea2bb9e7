package sample_test

import (
	"testing"
	"unicode/utf16"

	"canopy/api"
	"canopy/forest"
	"canopy/sample"
	"canopy/walk"
)

// A text becomes the tree that it writes out, with handles in the text's order.
func TestTree(t *testing.T) {
	for text, want := range map[string]string{
		"":              "#document\n",
		"a":             "#document\n  <a>\n",
		"- a(b(c) #)":   "#document\n  #comment 0\n  <a>\n    <b>\n      <c>\n    #text 0\n",
		")a(b(c)d(e))-": "#document\n  <a>\n    <b>\n      <c>\n    <d>\n      <e>\n  #comment 0\n",

		`!-"ab"a(#"(c)"="d"b ?"")`: "#document\n  !d\n  #comment 2\n  <a>\n    #text 3\n    #cdata 1\n    <b>\n    ?i\n",
	} {
		f := sample.Tree(text)
		if got, why := forest.Print(f, 1); why != api.OK || got != want {
			t.Errorf("%q: error %d, %s", text, why, got)
		}
	}
	if f := sample.Tree("a(b(c)d)"); f.Nodes[3].Name.Local != "c" || f.Nodes[4].Name.Local != "d" || f.Nodes[4].Parent != 2 {
		t.Error(f)
	}
}

// Shadow roots, slots and their names, and what hangs nowhere.
func TestTreeShadows(t *testing.T) {
	f := sample.Tree(`h(p:a -){/.a:b(#"x")[*]}(q) ~(b) `)
	if why, at := forest.Check(f); why != api.OK || len(f.Nodes) != 11 {
		t.Fatal(f, why, at)
	}
	if text, _ := forest.Print(f, 1); text != "#document\n  <h>\n    #shadow\n      <slot name slot>\n        #shadow\n        #text 1\n    <p slot>\n    #comment 0\n    <q>\n" {
		t.Error(text)
	}
	if text, _ := forest.Print(f, 10); text != "#fragment\n  <b>\n" {
		t.Error(text)
	}
	root, slot, deeper := f.Nodes[4], f.Nodes[5], f.Nodes[7]
	if root.Mode != api.ShadowOpen || root.Manual || deeper.Mode != api.ShadowClosed || !deeper.Manual || slot.Attrs[0].Value != "a" || slot.Attrs[1].Value != "b" || slot.Name.Space != api.SpaceHTML {
		t.Error(root, slot, deeper)
	}
}

// What stands in quotes are data, whatever it would be without them.
func TestTreeData(t *testing.T) {
	f := sample.Tree(`a(#"b(c)" ?"x")`)
	if len(f.Nodes) != 4 || string(utf16.Decode(f.Nodes[2].Data)) != "b(c)" || string(utf16.Decode(f.Nodes[3].Data)) != "x" {
		t.Error(f)
	}
}

// Flat and deep forests have as many nodes as they must, and are right; torn ones are not.
func TestShapes(t *testing.T) {
	for _, n := range []int{2, 3, 10, api.MaxNodes} {
		flat, deep := sample.Flat(n), sample.Deep(n)
		for _, f := range []api.Forest{flat, deep} {
			if why, at := forest.Check(f); why != api.OK || len(f.Nodes) != n {
				t.Errorf("%d nodes of %d, error %d at %d", len(f.Nodes), n, why, at)
			}
		}
		if len(flat.Nodes[1].Kids) != n-2 || n > 2 && deep.Nodes[n-1].Parent != n-1 {
			t.Errorf("of %d nodes: %d kids, the last one hangs on %d", n, len(flat.Nodes[1].Kids), deep.Nodes[n-1].Parent)
		}
	}
	for i, f := range sample.Torn() {
		if why, _ := forest.Check(f); why != api.ErrForest {
			t.Errorf("the torn forest %d: error %d", i, why)
		}
	}
}

// A thick forest is right, and more hangs in it than in one that is but grown.
func TestThick(t *testing.T) {
	thick, grown := 0, 0
	for seed := range 50 {
		f, g := sample.Thick(sample.NewDice(seed), 20), sample.Grow(sample.NewDice(seed), 20)
		if why, at := forest.Check(f); why != api.OK || len(f.Nodes) != 20 {
			t.Errorf("seed %d: error %d at %d", seed, why, at)
		}
		for i := range f.Nodes {
			thick += min(f.Nodes[i].Parent, 1)
			grown += min(g.Nodes[i].Parent, 1)
		}
	}
	if thick <= grown || thick < 500 {
		t.Error("it is not thick:", thick, grown)
	}
}

// Filters are never wrong, and say each verdict now and then.
func TestFilter(t *testing.T) {
	said := map[api.Verdict]int{}
	for seed := range 200 {
		d := sample.NewDice(seed)
		f, flt := sample.Grow(d, 12), sample.Filter(d)
		for i := range f.Nodes {
			v, why := walk.Accept(f, flt, i+1)
			if why != api.OK {
				t.Errorf("seed %d: error %d", seed, why)
			}
			said[v]++
		}
	}
	if len(said) != 3 || said[api.VerdictAccept] < 500 || said[api.VerdictReject] < 150 || said[api.VerdictSkip] < 150 {
		t.Error("too few of a kind:", said)
	}
}

// Text writes a tree out as Tree was given it.
func TestText(t *testing.T) {
	for _, text := range []string{"", "a", `! -"ab" a(#"(c)" ="d" b(c(d) -) ? #)`} {
		if got := sample.Text(sample.Tree(text), 1); got != text {
			t.Errorf("%q is written %q", text, got)
		}
	}
}
