package custom_test

import (
	"slices"
	"testing"

	"canopy/api"
	"canopy/custom"
	"canopy/forest"
	"canopy/sample"
)

// handed is all that is handed to a call, in memory with room behind each list.
type handed struct {
	f api.Forest
	r api.Registry
	d api.Definition
}

func rich() handed {
	f := sample.Cast("a(x(x) u x)")
	r := with(api.Custom{Node: 3, State: api.StateCustom, Definition: "x-a"}, api.Custom{Node: 6, State: api.StateUndefined})
	r.Definitions = append(r.Definitions, def("x-c", "x-c", 3, "p", "q"))
	return handed{f, r, def("x-d", "x-d", 4, "p", "s", "p")}
}

func (h handed) roomy() handed {
	d := h.d
	d.Observed = append(make([]string, 0, 9), d.Observed...)
	return handed{sample.Roomy(h.f), sample.RoomyRegistry(h.r), d}
}

func (h handed) spoil() {
	sample.Spoil(h.f)
	sample.SpoilRegistry(h.r)
	sample.Fill(h.d.Observed, "spoilt")
}

func (h handed) same(g handed) bool {
	return forest.Same(h.f, g.f) && sample.SameRegistry(h.r, g.r) && sample.SameDefinition(h.d, g.d)
}

func (h handed) spoilt() bool {
	return sample.Spoilt(h.f) || sample.SpoiltRegistry(h.r) || slices.Contains(h.d.Observed[:cap(h.d.Observed)], "spoilt")
}

// answered is what calls answer: a registry, a definition as if it were that of one, and handles.
type answered struct {
	r api.Registry
	l []int
}

func (a answered) copied() answered { return answered{sample.CopyRegistry(a.r), slices.Clone(a.l)} }

func (a answered) same(b answered) bool {
	return sample.SameRegistry(a.r, b.r) && slices.Equal(a.l, b.l)
}

// calls are all that answer lists.
func calls() map[string]func(handed) answered {
	alone := func(d api.Definition) answered {
		return answered{r: api.Registry{Definitions: []api.Definition{d}}}
	}
	return map[string]func(handed) answered{
		"Define": func(h handed) answered { r, _ := custom.Define(h.r, h.d); return answered{r: r} },
		"Define, each once": func(h handed) answered {
			h.d.Observed = h.d.Observed[:2]
			r, _ := custom.Define(h.r, h.d)
			return answered{r: r}
		},
		"Get":        func(h handed) answered { d, _, _ := custom.Get(h.r, "x-c"); return alone(d) },
		"Look":       func(h handed) answered { d, _, _ := custom.Look(h.r, api.SpaceHTML, "button", "x-b"); return alone(d) },
		"Begin":      func(h handed) answered { r, _ := custom.Begin(h.f, h.r, 4, "z"); return answered{r: r} },
		"Set":        func(h handed) answered { r, _ := custom.Set(h.r, 6, api.StateFailed, "x-c"); return answered{r: r} },
		"Candidates": func(h handed) answered { l, _ := custom.Candidates(h.f, h.r, 1, "x-a"); return answered{l: l} },
	}
}

// wantApart sees that no two lists of an answer are one: it is written over piece by piece, and what is still to come stays as it was.
func wantApart(t *testing.T, what string, r, was api.Registry) {
	t.Helper()
	for i := range r.Definitions {
		sample.Fill(r.Definitions[i].Observed, "spoilt")
		r.Definitions[i], was.Definitions[i] = api.Definition{}, api.Definition{}
		if !sample.SameRegistry(r, was) {
			t.Fatalf("%s: two lists of the answer are one", what)
		}
	}
}

// 25.5: what each call answers is new memory, in all its lists; what is handed in is neither changed nor kept.
func TestMemory(t *testing.T) {
	whole := rich()
	for what, call := range calls() {
		in := whole.roomy()
		a := call(in)
		was := a.copied()
		if !in.same(whole) || in.spoilt() {
			t.Errorf("%s: what was handed in is another one", what)
		}
		if len(a.r.Definitions) == 0 && len(a.l) == 0 {
			t.Errorf("%s: nothing is answered", what)
		}
		in.spoil()
		if !a.same(was) {
			t.Errorf("%s: the answer changes with what was handed in", what)
		}
		in = whole.roomy()
		a = call(in)
		sample.SpoilRegistry(a.r)
		sample.Fill(a.l, 99)
		if in.spoilt() || !in.same(whole) {
			t.Errorf("%s: what was handed in changes with the answer", what)
		}
		wantApart(t, what, call(whole.roomy()).r, was.r)
	}
}
