package mutate_test

import (
	"slices"
	"strings"
	"testing"

	"canopy/api"
	"canopy/forest"
	"canopy/mutate"
)

// row is a document 1 with an element 2, in which texts of these data stand; those that begin with < are CDATA, with ! comments, with / elements that have the rest in a text (behind all others).
func row(data ...string) api.Forest {
	f := forest.New(false)
	f.Nodes[0].Kids = []int{2}
	f.Nodes = append(f.Nodes, api.Node{Kind: api.KindElement, Name: local("p"), Parent: 1, Doc: 1})
	for _, s := range data {
		n := api.Node{Kind: api.KindText, Parent: 2, Doc: 1, Data: of(s)}
		switch {
		case strings.HasPrefix(s, "<"):
			n.Kind, n.Data = api.KindCData, of(s[1:])
		case strings.HasPrefix(s, "!"):
			n.Kind, n.Data = api.KindComment, of(s[1:])
		case strings.HasPrefix(s, "/"):
			n = api.Node{Kind: api.KindElement, Name: local(s), Parent: 2, Doc: 1}
		}
		f.Nodes = append(f.Nodes, n)
		f.Nodes[1].Kids = append(f.Nodes[1].Kids, len(f.Nodes))
	}
	for h, n := range f.Nodes {
		if rest, is := strings.CutPrefix(n.Name.Local, "/"); is {
			f.Nodes = append(f.Nodes, api.Node{Kind: api.KindText, Parent: h + 1, Doc: 1, Data: of(rest)})
			f.Nodes[h].Kids = []int{len(f.Nodes)}
		}
	}
	return f
}

func data(h, offset, count int, s string) api.Change {
	return api.Change{Kind: api.ChangeData, Node: h, Offset: offset, Count: count, Data: of(s)}
}

func merge(h, other, offset int) api.Change {
	return api.Change{Kind: api.ChangeMerge, Node: h, Other: other, Offset: offset}
}

// 9.4: texts without data, runs of two and more, CDATA between; the changes one by one.
func TestNormalize(t *testing.T) {
	for _, c := range []struct {
		what string
		row  []string
		want []api.Change
	}{
		{"nothing", nil, nil},
		{"one", []string{"a"}, nil},
		{"two", []string{"ab", "c"}, []api.Change{
			data(3, 2, 0, "c"), merge(3, 4, 2), rem(4, 2, 1), tree(2, nil, some(4), 3, 0)}},
		{"three", []string{"a", "bc", "d"}, []api.Change{
			data(3, 1, 0, "bcd"), merge(3, 4, 1), merge(3, 5, 3),
			rem(4, 2, 1), tree(2, nil, some(4), 3, 5), rem(5, 2, 1), tree(2, nil, some(5), 3, 0)}},
		{"one empty", []string{""}, []api.Change{rem(3, 2, 0), tree(2, nil, some(3), 0, 0)}},
		{"empty ones alone", []string{"", ""}, []api.Change{
			rem(3, 2, 0), tree(2, nil, some(3), 0, 4), rem(4, 2, 0), tree(2, nil, some(4), 0, 0)}},
		{"empty ahead", []string{"", "a"}, []api.Change{rem(3, 2, 0), tree(2, nil, some(3), 0, 4)}},
		{"empty behind: it is of the run", []string{"a", ""}, []api.Change{
			data(3, 1, 0, ""), merge(3, 4, 1), rem(4, 2, 1), tree(2, nil, some(4), 3, 0)}},
		{"empty between: example 2", []string{"a", "", "b"}, []api.Change{
			data(3, 1, 0, "b"), merge(3, 4, 1), merge(3, 5, 1),
			rem(4, 2, 1), tree(2, nil, some(4), 3, 5), rem(5, 2, 1), tree(2, nil, some(5), 3, 0)}},
		{"empty ahead of a run", []string{"", "a", "b"}, []api.Change{
			rem(3, 2, 0), tree(2, nil, some(3), 0, 4),
			data(4, 1, 0, "b"), merge(4, 5, 1), rem(5, 2, 1), tree(2, nil, some(5), 4, 0)}},
		{"CDATA between", []string{"a", "<b", "c"}, nil},
		{"CDATA beside one another", []string{"<a", "<b", "<"}, nil},
		{"CDATA behind a run", []string{"a", "b", "<c", "d"}, []api.Change{
			data(3, 1, 0, "b"), merge(3, 4, 1), rem(4, 2, 1), tree(2, nil, some(4), 3, 5)}},
		{"comments between, and empty ones", []string{"a", "!", "", "!", "b"}, []api.Change{
			rem(5, 2, 2), tree(2, nil, some(5), 4, 6)}},
		{"two runs", []string{"a", "b", "!", "c", "d"}, []api.Change{
			data(3, 1, 0, "b"), merge(3, 4, 1), rem(4, 2, 1), tree(2, nil, some(4), 3, 5),
			data(6, 1, 0, "d"), merge(6, 7, 1), rem(7, 2, 3), tree(2, nil, some(7), 6, 0)}},
		{"within a kid, in tree order", []string{"/", "", "/x"}, []api.Change{
			rem(6, 3, 0), tree(3, nil, some(6), 0, 0), rem(4, 2, 1), tree(2, nil, some(4), 3, 5)}},
	} {
		for h := 1; h <= 2; h++ {
			wants(t, c.what, row(c.row...), got(mutate.Normalize(row(c.row...), h)), c.want...)
		}
	}
}

// 9.4: h itself is left out, and so are shadow trees, and what is outside of h.
func TestNormalizeWithin(t *testing.T) {
	f := row("", "a", "b", "/")
	for _, h := range []int{3, 4, 5} {
		wants(t, "of a text", f, got(mutate.Normalize(f, h)))
	}
	wants(t, "of one kid", f, got(mutate.Normalize(f, 6)), rem(7, 6, 0), tree(6, nil, some(7), 0, 0))
	f.Nodes[5].Shadow = 8
	f.Nodes = append(f.Nodes,
		api.Node{Kind: api.KindShadow, Doc: 1, Host: 6, Mode: api.ShadowOpen, Kids: []int{9}},
		api.Node{Kind: api.KindText, Doc: 1, Parent: 8})
	wants(t, "of a host", f, got(mutate.Normalize(f, 6)), rem(7, 6, 0), tree(6, nil, some(7), 0, 0))
	wants(t, "of its shadow root", f, got(mutate.Normalize(f, 8)), rem(9, 8, 0), tree(8, nil, some(9), 0, 0))
}

// 9.4: texts that come to MaxData units are put together; one more is ErrLong, and nothing is done.
func TestNormalizeLong(t *testing.T) {
	half := strings.Repeat("x", api.MaxData/2)
	for _, tail := range [][]string{{half}, {half[1:], "y"}, {"", half}, {half, ""}} {
		a := got(mutate.Normalize(row(append([]string{half}, tail...)...), 1))
		wantKids(t, "MaxData units", a, 2, 3)
		if a.why == api.OK && len(a.g.Nodes[2].Data) != api.MaxData {
			t.Error(len(a.g.Nodes[2].Data))
		}
		f := row(append([]string{"", half, "z"}, tail...)...)
		refuses(t, "one more", got(mutate.Normalize(f, 1)), api.ErrLong)
	}
	wants(t, "a long one alone", row(half+half, "<z"), got(mutate.Normalize(row(half+half, "<z"), 1)))
}

// 9.5: of each kind, with data and with none.
func TestSetContent(t *testing.T) {
	f := page()
	text := func(doc int, s string) api.Change {
		return made(32, api.Node{Kind: api.KindText, Doc: doc, Data: of(s)})
	}
	for _, c := range []struct {
		what string
		h    int
		data string
		want []api.Change
	}{
		{"a document", 1, "new", nil},
		{"a document, none", 1, "", nil},
		{"a doctype", 2, "new", nil},
		{"a doctype, none", 2, "", nil},
		{"a text", 28, "new", []api.Change{data(28, 0, 4, "new")}},
		{"a text, none", 28, "", []api.Change{data(28, 0, 4, "")}},
		{"a text, the same", 28, "lone", []api.Change{data(28, 0, 4, "lone")}},
		{"CDATA", 29, "new", []api.Change{data(29, 0, 2, "new")}},
		{"CDATA, none", 29, "", []api.Change{data(29, 0, 2, "")}},
		{"an instruction", 30, "new", []api.Change{data(30, 0, 2, "new")}},
		{"an instruction, none", 30, "", []api.Change{data(30, 0, 2, "")}},
		{"a comment", 4, "new", []api.Change{data(4, 0, 3, "new")}},
		{"a comment, none by none", 14, "", []api.Change{data(14, 0, 0, "")}},
		{"an element", 6, "new", []api.Change{
			text(1, "new"), rem(9, 6, 0), ins(32, 6, 0), tree(6, some(32), some(9), 0, 0)}},
		{"an element, none", 6, "", []api.Change{rem(9, 6, 0), tree(6, nil, some(9), 0, 0)}},
		{"an element without kids", 23, "new", []api.Change{text(1, "new"), ins(32, 23, 0), tree(23, some(32), nil, 0, 0)}},
		{"an element without kids, none", 23, "", nil},
		{"a fragment of another document", 15, "n", []api.Change{
			text(20, "n"), rem(16, 15, 0), rem(17, 15, 0), rem(19, 15, 0), ins(32, 15, 0), tree(15, some(32), some(16, 17, 19), 0, 0)}},
		{"a fragment, none", 13, "", []api.Change{rem(14, 13, 0), tree(13, nil, some(14), 0, 0)}},
		{"a shadow root", 25, "n", []api.Change{
			text(20, "n"), rem(26, 25, 0), ins(32, 25, 0), tree(25, some(32), some(26), 0, 0)}},
		{"a shadow root, none", 25, "", []api.Change{rem(26, 25, 0), tree(25, nil, some(26), 0, 0)}},
	} {
		wants(t, c.what, f, got(mutate.SetContent(f, c.h, of(c.data))), c.want...)
	}
	wants(t, "empty data are none", f, got(mutate.SetContent(f, 6, api.Units{})), rem(9, 6, 0), tree(6, nil, some(9), 0, 0))
}

// 9.5: data of MaxData units are taken, longer ones are ErrLong; a text is ErrMany, where there are MaxNodes nodes, whatever its data.
func TestSetContentLimits(t *testing.T) {
	most := slices.Repeat(of("x"), api.MaxData)
	long := append(slices.Clone(most), 'y')
	for _, h := range []int{4, 6, 13, 23, 25, 28, 29, 30} {
		if a := got(mutate.SetContent(page(), h, most)); a.why != api.OK || len(a.l) == 0 {
			t.Errorf("SetContent(%d) of MaxData units: %d", h, a.why)
		}
		refuses(t, "one more", got(mutate.SetContent(page(), h, long)), api.ErrLong)
	}
	for _, h := range []int{1, 2} {
		wants(t, "no change of", page(), got(mutate.SetContent(page(), h, long)))
	}
	last := stuffed(api.MaxNodes - 1)
	if a := got(mutate.SetContent(last, 6, of("x"))); a.why != api.OK || len(a.g.Nodes) != api.MaxNodes {
		t.Error("the last node:", a.why)
	}
	full := stuffed(api.MaxNodes)
	refuses(t, "where there are MaxNodes", got(mutate.SetContent(full, 6, of("x"))), api.ErrMany)
	refuses(t, "where there are MaxNodes, too long", got(mutate.SetContent(full, 6, long)), api.ErrMany)
	for h, s := range map[int]string{6: "", 28: "x", 1: "x"} {
		if a := got(mutate.SetContent(full, h, of(s))); a.why != api.OK {
			t.Errorf("SetContent(%d), which makes no node: %d", h, a.why)
		}
	}
}

// stuffed is the page with so many nodes, those behind it being elements that hang nowhere.
func stuffed(n int) api.Forest {
	f := page()
	for len(f.Nodes) < n {
		f.Nodes = append(f.Nodes, api.Node{Kind: api.KindElement, Name: local("e"), Doc: 1})
	}
	return f
}
