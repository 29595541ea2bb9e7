package custom_test

import (
	"slices"
	"testing"

	"canopy/api"
	"canopy/custom"
	"canopy/names"
	"canopy/order"
	"canopy/sample"
)

// each hands on forests with registries, which are picked by dice.
func each(seeds, nodes int, see func(seed int, d *sample.Dice, f api.Forest, r api.Registry)) {
	for seed := range seeds {
		d := sample.NewDice(seed)
		f := sample.Customs(d, 1+d.Below(nodes))
		see(seed, d, f, sample.Registry(d, f))
	}
}

// entryOf is what the words say of an element, by going over all.
func entryOf(r api.Registry, h int) (api.Custom, bool) {
	for _, e := range r.Elements {
		if e.Node == h {
			return e, true
		}
	}
	return api.Custom{Node: h}, false
}

// lookOf is the name of the definition that the words say, by going over all.
func lookOf(r api.Registry, space, local, is string) string {
	if space != api.SpaceHTML {
		return ""
	}
	for _, d := range r.Definitions {
		if d.Name == local && d.Local == local {
			return d.Name
		}
	}
	for _, d := range r.Definitions {
		if d.Name == is && d.Local == local {
			return d.Name
		}
	}
	return ""
}

// 25.2, 25.6, 25.7, 25.8: behind Define Get has the definition, and Look of its Local; those ahead are as they were; its Name and its Constructor are defined once.
func TestDefined(t *testing.T) {
	made, built, refused := 0, 0, 0
	each(500, 14, func(seed int, d *sample.Dice, f api.Forest, r api.Registry) {
		for range 6 {
			x := sample.Definition(d)
			x.Observed = append(x.Observed, x.Observed...)
			there := slices.ContainsFunc(r.Definitions, func(y api.Definition) bool { return y.Name == x.Name || y.Constructor == x.Constructor })
			more, why := custom.Define(r, x)
			if there != (why == api.ErrUnsupported) || !there && why != api.OK {
				t.Fatalf("seed %d: %v is there: %v, error %d", seed, x, there, why)
			}
			if there {
				refused++
				continue
			}
			x.Observed = x.Observed[:len(x.Observed)/2]
			wantDefined(t, r, more, x)
			r = more
			made++
			if x.Local != x.Name {
				built++
			}
		}
	})
	if made < 500 || built < 200 || refused < 500 {
		t.Error("too few:", made, built, refused)
	}
}

// wantDefined sees that a registry is another one with a definition more, which is found, and can't be defined once more.
func wantDefined(t *testing.T, was, r api.Registry, x api.Definition) {
	t.Helper()
	fine(t, custom.Check(r))
	want := sample.CopyRegistry(was)
	want.Definitions = append(want.Definitions, x)
	wantRegistry(t, "Define", r, api.OK, want)
	if d, is, why := custom.Get(r, x.Name); why != api.OK || !is || !sample.SameDefinition(d, x) {
		t.Fatalf("Get(%s): %v, %v, error %d", x.Name, d, is, why)
	}
	if d, is, why := custom.Look(r, api.SpaceHTML, x.Local, x.Name); why != api.OK || !is || !sample.SameDefinition(d, x) {
		t.Fatalf("Look(%s, %s): %v, %v, error %d", x.Local, x.Name, d, is, why)
	}
	if _, is, why := custom.Look(r, api.SpaceHTML, x.Local, ""); why != api.OK || is != (x.Local == x.Name) {
		t.Fatalf("Look(%s): %v, error %d", x.Local, is, why)
	}
	for _, y := range was.Definitions {
		if d, is, why := custom.Get(r, y.Name); why != api.OK || !is || !sample.SameDefinition(d, y) {
			t.Fatalf("Get(%s): %v, %v, error %d", y.Name, d, is, why)
		}
		if d, is, why := custom.Look(r, api.SpaceHTML, y.Local, y.Name); why != api.OK || !is || !sample.SameDefinition(d, y) {
			t.Fatalf("Look(%s, %s): %v, %v, error %d", y.Local, y.Name, d, is, why)
		}
	}
	name, constructor := x, x
	name.Constructor, constructor.Name, constructor.Local = 99, "x-z", "x-z"
	for _, again := range []api.Definition{x, name, constructor} {
		if _, why := custom.Define(r, again); why != api.ErrUnsupported {
			t.Fatalf("%v once more: error %d", again, why)
		}
	}
}

// 25.1: Look is what the words say, of any names.
func TestLookByDice(t *testing.T) {
	local, byIs, none := 0, 0, 0
	each(400, 14, func(seed int, d *sample.Dice, f api.Forest, r api.Registry) {
		for range 30 {
			n, is := sample.CustomName(d), []string{"", "x-a", "x-b", "x-c", "x-d"}[d.Below(5)]
			want := lookOf(r, n.Space, n.Local, is)
			got, found, why := custom.Look(r, n.Space, n.Local, is)
			if why != api.OK || got.Name != want || found != (want != "") {
				t.Fatalf("seed %d: Look(%v, %s): %v, %v, error %d; want %s", seed, n, is, got, found, why, want)
			}
			switch {
			case want == "":
				none++
			case want == n.Local:
				local++
			default:
				byIs++
			}
		}
	})
	if local < 300 || byIs < 100 || none < 500 {
		t.Error("too few:", local, byIs, none)
	}
}

// 25.3, 25.6, 25.9: Begin and Set by dice: Of is what was begun, and set; of all others it is what it was.
func TestFurther(t *testing.T) {
	begun, set := 0, map[api.CustomState]int{}
	each(400, 14, func(seed int, d *sample.Dice, f api.Forest, r api.Registry) {
		for range 20 {
			h := 1 + d.Below(len(f.Nodes))
			was, among := entryOf(r, h)
			next, why := api.Registry{}, api.OK
			want := was
			if n := f.Nodes[h-1]; !among {
				want.Is = []string{"", "", "x-b"}[d.Below(3)]
				if n.Name.Space == api.SpaceHTML && names.Custom(n.Name.Local) || want.Is != "" {
					want.State = api.StateUndefined
				}
				next, why = custom.Begin(f, r, h, want.Is)
				if (why == api.ErrType) != (n.Kind != api.KindElement) {
					t.Fatalf("seed %d: Begin(%d): error %d", seed, h, why)
				}
			} else {
				want.State, want.Definition = api.CustomState(d.Below(4)), ""
				if want.State >= api.StateFailed {
					want.Definition = "x-" + string(rune('a'+d.Below(5)))
				}
				_, defined, _ := custom.Get(r, want.Definition)
				next, why = custom.Set(r, h, want.State, want.Definition)
				if (why == api.ErrNotFound) != (want.State >= api.StateFailed && !defined) {
					t.Fatalf("seed %d: Set(%v): error %d", seed, want, why)
				}
			}
			if why != api.OK {
				continue
			}
			wantFurther(t, r, next, want)
			if r = next; among {
				set[want.State]++
			} else {
				begun++
			}
		}
	})
	if begun < 250 || slices.Min([]int{set[0], set[1], set[2], set[3]}) < 300 {
		t.Error("too few:", begun, set)
	}
}

// wantFurther sees that of a registry all is as it was, but an element.
func wantFurther(t *testing.T, was, r api.Registry, want api.Custom) {
	t.Helper()
	fine(t, custom.Check(r))
	if !slices.EqualFunc(was.Definitions, r.Definitions, sample.SameDefinition) {
		t.Fatalf("the definitions are %v", r.Definitions)
	}
	for h := -1; h < 30; h++ {
		wanted, _ := entryOf(was, h)
		if h == want.Node {
			wanted = want
		}
		if got, why := custom.Of(r, h); why != api.OK || got != wanted {
			t.Fatalf("Of(%d): %v, error %d; want %v", h, got, why, wanted)
		}
	}
}

// 25.4, 25.9: Candidates are what the words say; one that is set to StateCustom, or any state but StateUndefined, is none any more, and the others are.
func TestCandidatesByDice(t *testing.T) {
	own, built, shadowed := 0, 0, 0
	each(600, 60, func(seed int, d *sample.Dice, f api.Forest, r api.Registry) {
		for _, x := range r.Definitions {
			for doc, n := range f.Nodes {
				if doc++; n.Kind != api.KindDocument {
					continue
				}
				l, why := custom.Candidates(f, r, doc, x.Name)
				if want := candidatesOf(f, r, doc, x); why != api.OK || !slices.Equal(l, want) {
					t.Fatalf("seed %d: Candidates(%d, %s): %v, error %d; want %v", seed, doc, x.Name, l, why, want)
				}
				if x.Local == x.Name {
					own += len(l)
				} else {
					built += len(l)
				}
				for i, h := range l {
					wantGone(t, f, r, doc, x.Name, l, i)
					if in, _ := order.Contains(f, doc, h); !in {
						shadowed++
					}
				}
			}
		}
	})
	if own < 100 || built < 20 || shadowed < 20 {
		t.Error("too few:", own, built, shadowed)
	}
}

func candidatesOf(f api.Forest, r api.Registry, doc int, x api.Definition) []int {
	var l []int
	all, _ := order.Deep(f, doc)
	for _, h := range all {
		n := f.Nodes[h-1]
		e, among := entryOf(r, h)
		if n.Kind != api.KindElement || n.Name.Space != api.SpaceHTML || n.Name.Local != x.Local {
			continue
		}
		if among && e.State != api.StateUndefined {
			continue
		}
		if x.Local == x.Name || e.Is == x.Name {
			l = append(l, h)
		}
	}
	return l
}

// wantGone sees that a candidate is one no more behind Set, and all others are.
func wantGone(t *testing.T, f api.Forest, r api.Registry, doc int, name string, l []int, i int) {
	t.Helper()
	if _, among := entryOf(r, l[i]); !among {
		var why api.Errno
		r, why = custom.Begin(f, r, l[i], "")
		fine(t, why)
	}
	for _, s := range []api.CustomState{api.StateCustom, api.StateFailed} {
		set, why := custom.Set(r, l[i], s, name)
		fine(t, why)
		left, why := custom.Candidates(f, set, doc, name)
		if want := slices.Delete(slices.Clone(l), i, i+1); why != api.OK || !slices.Equal(left, want) {
			t.Fatalf("behind Set: %v, error %d; want %v", left, why, want)
		}
	}
}

// A roll tells what the calls do, of a registry that is right alone.
func TestRoll(t *testing.T) {
	each(200, 14, func(seed int, d *sample.Dice, f api.Forest, r api.Registry) {
		roll, why := custom.Read(r)
		fine(t, why)
		for range 10 {
			h, n, is := d.Below(20), sample.CustomName(d), "x-"+string(rune('a'+d.Below(5)))
			of, _ := custom.Of(r, h)
			named, has, _ := custom.Get(r, is)
			looked, found, _ := custom.Look(r, n.Space, n.Local, is)
			gotNamed, gotHas := roll.Named(is)
			gotLooked, gotFound := roll.Look(n.Space, n.Local, is)
			if roll.Of(h) != of || gotHas != has || gotFound != found || !sample.SameDefinition(gotNamed, named) || !sample.SameDefinition(gotLooked, looked) {
				t.Fatalf("seed %d: of %d, %v, %s", seed, h, n, is)
			}
		}
	})
	for what, r := range notRight() {
		if roll, why := custom.Read(r); why != api.ErrRange || roll.Of(1) != (api.Custom{Node: 1}) {
			t.Errorf("%s: error %d", what, why)
		}
	}
}
