package sample_test

import (
	"testing"

	"canopy/api"
	"canopy/custom"
	"canopy/forest"
	"canopy/sample"
)

func registryOf(seed int) (api.Forest, api.Registry) {
	d := sample.NewDice(seed)
	f := sample.Customs(d, 1+d.Below(12))
	return f, sample.Registry(d, f)
}

// What registries are grown is right, the same each time; there are many of each kind. So are their forests.
func TestRegistries(t *testing.T) {
	count := map[string]int{}
	for seed := range 300 {
		f, r := registryOf(seed)
		g, again := registryOf(seed)
		if why, _ := forest.Check(f); why != api.OK || !forest.Same(f, g) {
			t.Errorf("seed %d: a forest: error %d", seed, why)
		}
		if why := custom.Check(r); why != api.OK || !sample.SameRegistry(r, again) {
			t.Errorf("seed %d: %v, error %d, then %v", seed, r, why, again)
		}
		for _, d := range r.Definitions {
			tally(count, "definitions", true)
			tally(count, "built-in", d.Local != d.Name)
			tally(count, "Observed", len(d.Observed) > 0)
			tally(count, "no Connected", d.Connected == 0)
			tally(count, "no Changed", d.Changed == 0)
		}
		for _, e := range r.Elements {
			tally(count, []string{"StateUncustomized", "StateUndefined", "StateFailed", "StateCustom"}[e.State], true)
			tally(count, "Is", e.Is != "")
			tally(count, "not there", e.Node > len(f.Nodes))
		}
		for _, n := range f.Nodes {
			tally(count, "of a custom name", n.Name.Space == api.SpaceHTML && n.Name.Local == "x-a")
			tally(count, "of that in another space", n.Name.Space == api.SpaceSVG && n.Name.Local == "x-a")
			tally(count, "built in", n.Name.Local == "button")
		}
	}
	for what, n := range count {
		if n < 80 {
			t.Error("too few of a kind:", what, n)
		}
	}
}

func tally(count map[string]int, what string, is bool) {
	if is {
		count[what]++
	} else {
		count[what] += 0
	}
}

// Cast has names in the place of some letters, and leaves others.
func TestCast(t *testing.T) {
	f := sample.Cast("a(x y z u v w b) - ?")
	if why, at := forest.Check(f); why != api.OK {
		t.Fatal(why, at)
	}
	for h, want := range map[int]api.Name{
		2: {Local: "a"}, 3: {Space: api.SpaceHTML, Local: "x-a"}, 4: {Space: api.SpaceHTML, Local: "x-b"}, 5: {Space: api.SpaceHTML, Local: "x-c"},
		6: {Space: api.SpaceHTML, Local: "button"}, 7: {Space: api.SpaceHTML, Local: "div"}, 8: {Space: api.SpaceSVG, Local: "x-a"}, 9: {Local: "b"}, 11: {Local: "i"},
	} {
		if got := f.Nodes[h-1].Name; got != want {
			t.Error(h, got)
		}
	}
}

// wholeRegistry has something in each field.
func wholeRegistry() api.Registry {
	d := api.Definition{Name: "x-a", Local: "b", Constructor: 1, Connected: 2, Disconnected: 3, Adopted: 4, Changed: 5, Observed: []string{"a"}}
	return api.Registry{Definitions: []api.Definition{d}, Elements: []api.Custom{{Node: 1, State: api.StateCustom, Is: "x", Definition: "x-a"}}}
}

// Copies are the same, in other memory, with room behind lists or not.
func TestCopiesOfRegistries(t *testing.T) {
	for _, copied := range []func(api.Registry) api.Registry{sample.CopyRegistry, sample.RoomyRegistry} {
		r := wholeRegistry()
		c := copied(r)
		sample.SpoilRegistry(r)
		if !sample.SameRegistry(c, wholeRegistry()) || sample.SpoiltRegistry(c) || !sample.SpoiltRegistry(r) || sample.SameRegistry(c, r) {
			t.Error(r, c)
		}
	}
}

// What is written over is seen, in each list and behind it.
func TestSpoiltRegistries(t *testing.T) {
	for what, write := range map[string]func(r api.Registry){
		"Definitions": func(r api.Registry) { sample.SpoilRegistry(api.Registry{Definitions: r.Definitions[1:]}) },
		"Observed":    func(r api.Registry) { sample.Fill(r.Definitions[0].Observed[1:], "spoilt") },
		"Elements":    func(r api.Registry) { sample.SpoilRegistry(api.Registry{Elements: r.Elements[1:]}) },
	} {
		r := sample.RoomyRegistry(wholeRegistry())
		write(r)
		if !sample.SpoiltRegistry(r) || !sample.SameRegistry(r, wholeRegistry()) {
			t.Error("what is written behind it is not seen:", what)
		}
	}
}

// Registries are the same only if all their fields are.
func TestSameRegistry(t *testing.T) {
	for what, turn := range map[string]func(r *api.Registry){
		"Name":           func(r *api.Registry) { r.Definitions[0].Name = "" },
		"Local":          func(r *api.Registry) { r.Definitions[0].Local = "" },
		"Constructor":    func(r *api.Registry) { r.Definitions[0].Constructor++ },
		"Connected":      func(r *api.Registry) { r.Definitions[0].Connected++ },
		"Disconnected":   func(r *api.Registry) { r.Definitions[0].Disconnected++ },
		"Adopted":        func(r *api.Registry) { r.Definitions[0].Adopted++ },
		"Changed":        func(r *api.Registry) { r.Definitions[0].Changed++ },
		"Observed":       func(r *api.Registry) { r.Definitions[0].Observed[0] = "b" },
		"none Observed":  func(r *api.Registry) { r.Definitions[0].Observed = nil },
		"no Definitions": func(r *api.Registry) { r.Definitions = nil },
		"Node":           func(r *api.Registry) { r.Elements[0].Node++ },
		"State":          func(r *api.Registry) { r.Elements[0].State-- },
		"Is":             func(r *api.Registry) { r.Elements[0].Is = "" },
		"Definition":     func(r *api.Registry) { r.Elements[0].Definition = "" },
		"no Elements":    func(r *api.Registry) { r.Elements = nil },
	} {
		r := wholeRegistry()
		turn(&r)
		if sample.SameRegistry(r, wholeRegistry()) {
			t.Error("the same, but for", what)
		}
	}
}
