package find_test

import (
	"math"
	"strconv"
	"strings"
	"testing"
	"time"

	"canopy/api"
	"canopy/find"
	"canopy/forest"
	"canopy/sample"
)

// answer is what a call answers, whatever it is.
type answer struct {
	l   []int
	h   int
	s   string
	is  bool
	why api.Errno
}

type call func(f api.Forest, h int, s string) answer

func calls() map[string]call {
	return map[string]call{
		"Tag": func(f api.Forest, h int, s string) answer { l, why := find.Tag(f, h, s); return answer{l: l, why: why} },
		"TagNS": func(f api.Forest, h int, s string) answer {
			l, why := find.TagNS(f, h, s, s)
			return answer{l: l, why: why}
		},
		"Class": func(f api.Forest, h int, s string) answer {
			l, why := find.Class(f, h, s)
			return answer{l: l, why: why}
		},
		"Id":   func(f api.Forest, h int, s string) answer { n, why := find.Id(f, h, s); return answer{h: n, why: why} },
		"Kids": func(f api.Forest, h int, s string) answer { l, why := find.Kids(f, h); return answer{l: l, why: why} },
		"Space": func(f api.Forest, h int, s string) answer {
			p, why := find.Space(f, h, s)
			return answer{s: p, why: why}
		},
		"Prefix": func(f api.Forest, h int, s string) answer {
			p, why := find.Prefix(f, h, s)
			return answer{s: p, why: why}
		},
		"Default": func(f api.Forest, h int, s string) answer {
			is, why := find.Default(f, h, s)
			return answer{is: is, why: why}
		},
	}
}

// wantAll sees that every call, whatever it is asked for, answers an error alone.
func wantAll(t *testing.T, f api.Forest, h int, why api.Errno) {
	t.Helper()
	for what, do := range calls() {
		for _, s := range []string{"", "*", "a", "xml", "x", api.SpaceHTML} {
			if x := do(f, h, s); x.why != why || x.l != nil || x.h != 0 || x.s != "" || x.is {
				t.Errorf("%s(%d, %q): %+v, want error %d", what, h, s, x, why)
			}
		}
	}
}

// stuffed is a document with so many nodes, elements side by side.
func stuffed(n int) api.Forest {
	w := grown(true)
	top := w.element(1, html("top"))
	for len(w.f.Nodes) < n {
		w.element(top, html("a"), attr("class", "x"), attr("id", "*"))
	}
	return w.f
}

// 11.1, 11.2: a forest that is not right is ErrForest, whatever the handle; then a handle of no node ErrRange.
func TestErrors(t *testing.T) {
	var wrongs []api.Forest
	for _, turn := range []func(f *api.Forest){
		func(f *api.Forest) { f.Nodes[1].Doc = 0 },
		func(f *api.Forest) { f.Nodes[1].Doc = 99 },
		func(f *api.Forest) { f.Nodes[1].Kids[0] = 99 },
		func(f *api.Forest) { f.Nodes[1].Kids[0] = 2 },
		func(f *api.Forest) { f.Nodes[1].Parent = 3 },
		func(f *api.Forest) { f.Nodes[1].Kind = 2 },
		func(f *api.Forest) { f.Nodes[1].Attrs = append(f.Nodes[1].Attrs, attr("id", "x")) },
		func(f *api.Forest) { *f = stuffed(api.MaxNodes + 1) },
	} {
		f := pair(t)
		turn(&f)
		wrongs = append(wrongs, f)
	}
	for _, f := range wrongs {
		for _, h := range []int{1, 2, 3, 0, -1, 99999} {
			wantAll(t, f, h, api.ErrForest)
		}
	}
	for _, h := range []int{0, -1, 6, math.MaxInt, math.MinInt} {
		wantAll(t, pair(t), h, api.ErrRange)
		wantAll(t, api.Forest{}, h, api.ErrRange)
	}
}

// 11.5: what is handed in stays as it is, and lists that are answered are new ones.
func TestNewMemory(t *testing.T) {
	f := pair(t)
	for what, do := range calls() {
		for h := range f.Nodes {
			for _, s := range []string{"*", "x", "a", "", "p"} {
				in := sample.Roomy(f)
				x := do(in, h+1, s)
				if !forest.Same(in, f) {
					t.Errorf("%s turns the forest", what)
				}
				was := append([]int(nil), x.l...)
				sample.Spoil(in)
				wantList(t, what+": the forest was written over", x.l, x.why, was...)
				in = sample.Roomy(f)
				sample.Fill(do(in, h+1, s).l, 999)
				if !forest.Same(in, f) || sample.Spoilt(in) {
					t.Errorf("%s: the forest changes with the answer", what)
				}
			}
		}
	}
}

// P1: of a forest of MaxNodes elements, with as many attributes as can be, all are found, and soon: no element has the whole forest gone over.
func TestMany(t *testing.T) {
	var l []api.Attr
	for i := range api.MaxAttrs - 1 {
		l = append(l, attr("a"+strconv.Itoa(i), "v"))
	}
	l = append(l, attr("class", strings.Repeat("x y ", api.MaxValue/4)))
	w := grown(true)
	top := w.element(1, html("top"))
	for len(w.f.Nodes) < api.MaxNodes {
		w.element(top, html("a"), l...)
	}
	f := w.right(t)
	started := time.Now()
	for what, find := range map[string]func() ([]int, api.Errno){
		"Class": func() ([]int, api.Errno) { return find.Class(f, 1, "y x") },
		"Tag":   func() ([]int, api.Errno) { return find.Tag(f, 1, "A") },
		"TagNS": func() ([]int, api.Errno) { return find.TagNS(f, 1, "*", "a") },
		"Kids":  func() ([]int, api.Errno) { return find.Kids(f, 2) },
		"Items": func() ([]int, api.Errno) {
			return find.New(api.Query{Kind: api.QueryClass, Root: 1, Local: "x"}).Items(f, 0)
		},
	} {
		all, why := find()
		if why != api.OK || len(all) != api.MaxNodes-2 || all[0] != 3 || all[len(all)-1] != api.MaxNodes {
			t.Errorf("%s: %d elements, %d", what, len(all), why)
		}
	}
	if took := time.Since(started); took > time.Minute {
		t.Error("it takes too long:", took)
	}
}

// P1: texts of any length are asked for: there is no limit to them.
func TestLongTexts(t *testing.T) {
	long := strings.Repeat("a ", api.MaxName*8)
	for what, do := range calls() {
		if x := do(pair(t), 1, long); x.why != api.OK || x.h != 0 || x.s != "" || x.is || what != "Kids" && x.l != nil {
			t.Errorf("%s: %+v", what, x)
		}
	}
	l, why := find.Class(pair(t), 1, strings.Repeat("x ", api.MaxName*8))
	wantList(t, "one class thousands of times", l, why, 2, 5)
}
