package abort_test

import (
	"fmt"
	"math"
	"slices"
	"strconv"
	"strings"
	"testing"

	"canopy/abort"
	"canopy/api"
	"canopy/sample"
)

// read has the signals that a text writes out: - is one; behind it, ! and its reason, if it is aborted; < and its Sources, with dots between, if it is Dependent. Dependents come of that, by rising handles.
func read(text string) []api.Signal {
	words := strings.Fields(text)
	l := make([]api.Signal, len(words))
	for i, word := range words {
		word, sources, dependent := strings.Cut(word, "<")
		_, reason, aborted := strings.Cut(word, "!")
		l[i].Aborted, l[i].Dependent = aborted, dependent
		l[i].Reason, _ = strconv.Atoi(reason)
		for _, h := range strings.FieldsFunc(sources, func(r rune) bool { return r == '.' }) {
			n, _ := strconv.Atoi(h)
			l[i].Sources = append(l[i].Sources, n)
			l[n-1].Dependents = append(l[n-1].Dependents, i+1)
		}
	}
	return l
}

// written is the text of signals, with > and the Dependents behind each one that has some, and ? for ! where one has a reason and is not aborted.
func written(l []api.Signal) string {
	dots := func(l []int) string { return strings.Trim(strings.ReplaceAll(fmt.Sprint(l), " ", "."), "[]") }
	var words []string
	for _, s := range l {
		word := "-"
		switch {
		case s.Aborted:
			word += "!" + strconv.Itoa(s.Reason)
		case s.Reason != 0:
			word += "?" + strconv.Itoa(s.Reason)
		}
		if s.Dependent || len(s.Sources) > 0 {
			word += "<" + dots(s.Sources)
		}
		if len(s.Dependents) > 0 {
			word += ">" + dots(s.Dependents)
		}
		words = append(words, word)
	}
	return strings.Join(words, " ")
}

// with has a signal turned.
func with(l []api.Signal, h int, turn func(*api.Signal)) []api.Signal {
	m := sample.CopySignals(l)
	turn(&m[h-1])
	return m
}

// most are as many as may be, half of which depend on each of the others.
func most() []api.Signal {
	l := make([]api.Signal, api.MaxSignals)
	for i := range l {
		for j := range api.MaxSignals / 2 {
			if i < api.MaxSignals/2 {
				l[i].Dependents = append(l[i].Dependents, api.MaxSignals/2+j+1)
			} else {
				l[i].Dependent, l[i].Sources = true, append(l[i].Sources, j+1)
			}
		}
	}
	return l
}

func wantList(t *testing.T, what string, l []api.Signal, why api.Errno, want string) {
	t.Helper()
	if why != api.OK || written(l) != want {
		t.Errorf("%s: %s, error %d; want %s", what, written(l), why, want)
	}
}

func wantOf(t *testing.T, what string, l []api.Signal, h int, aborted bool, reason int) {
	t.Helper()
	if is, by, why := abort.Of(l, h); why != api.OK || is != aborted || by != reason {
		t.Errorf("%s: Of(%d): %v, %d, error %d; want %v, %d", what, h, is, by, why, aborted, reason)
	}
}

// The chapter's example.
func TestExample(t *testing.T) {
	l, a, why := abort.New(nil, 0)
	wantList(t, "New", l, why, "-")
	l, b, why := abort.New(l, 0)
	wantList(t, "New", l, why, "- -")
	l, c, why := abort.Any(l, []int{1, 2})
	wantList(t, "Any(1, 2)", l, why, "->3 ->3 -<1.2")
	l, d, why := abort.Any(l, []int{3, 1})
	wantList(t, "Any(3, 1)", l, why, "->3.4 ->3.4 -<1.2 -<1.2")
	if a != 1 || b != 2 || c != 3 || d != 4 {
		t.Error("handles:", a, b, c, d)
	}
	l, told, why := abort.Abort(l, 2, 7)
	if why != api.OK || !slices.Equal(told, []int{2, 3, 4}) {
		t.Error("Abort(2, 7):", told, why)
	}
	wantOf(t, "Abort(2, 7)", l, 4, true, 7)
	l, told, why = abort.Abort(l, 1, 0)
	if why != api.OK || !slices.Equal(told, []int{1}) {
		t.Error("Abort(1, 0):", told, why)
	}
	wantOf(t, "Abort(1, 0)", l, 1, true, 21)
	l, e, why := abort.Any(l, []int{2})
	if why != api.OK || e != 5 || l[4].Dependent {
		t.Error("Any(2):", e, l[4], why)
	}
	wantOf(t, "Any(2)", l, 5, true, 7)
}

// Words (signals that are right), 23.1: at each edge.
func TestRight(t *testing.T) {
	for what, l := range map[string][]api.Signal{
		"none at all":               nil,
		"an empty list":             {},
		"one":                       read("-"),
		"aborted":                   read("-!1"),
		"a reason below 0":          read("-!-1"),
		"the least reason":          {{Aborted: true, Reason: math.MinInt}},
		"empty lists":               {{Sources: []int{}, Dependents: []int{}}, {Dependent: true, Sources: []int{}, Dependents: []int{}}},
		"depends on none":           read("-<"),
		"depends on none, aborted":  read("-!3<"),
		"depends on some":           read("- - -<1.2 -<2 -<2.1"),
		"a source behind it":        read("-<2 -"),
		"aborted as its source is":  read("-!7 -!7<1"),
		"aborted otherwise":         read("-!7 -!8<1"),
		"aborted ahead of a source": read("- -!8<1 -<1"),
		"one of its sources is":     read("- -!7 -!7<1.2"),
		"Dependents that fall":      with(read("- -<1 -<1 -<1"), 1, func(s *api.Signal) { s.Dependents = []int{4, 2, 3} }),
		"as many as may be":         make([]api.Signal, api.MaxSignals),
		"as many ties as may be":    most(),
	} {
		if why := abort.Check(l); why != api.OK {
			t.Errorf("%s: error %d", what, why)
		}
	}
}

// 23.2: a signal more, aborted just if there is a reason.
func TestNew(t *testing.T) {
	for _, x := range []struct {
		l      string
		reason int
		want   string
	}{
		{"", 0, "-"}, {"", 1, "-!1"}, {"", -1, "-!-1"}, {"", 21, "-!21"}, {"", math.MinInt, "-!-9223372036854775808"},
		{"-!7 - -<2", 0, "-!7 ->3 -<2 -"}, {"-!7 - -<2", 7, "-!7 ->3 -<2 -!7"},
	} {
		l, h, why := abort.New(read(x.l), x.reason)
		wantList(t, fmt.Sprintf("New(%s, %d)", x.l, x.reason), l, why, x.want)
		if h != len(l) {
			t.Error("its handle:", h)
		}
	}
	l, h, why := abort.New(make([]api.Signal, api.MaxSignals-1), 7)
	if why != api.OK || h != api.MaxSignals || len(l) != h || l[h-1].Reason != 7 {
		t.Error("the last one:", h, why)
	}
}

// 23.3: a signal that depends on others, or is aborted at once.
func TestAny(t *testing.T) {
	for _, x := range []struct {
		what, l string
		sources []int
		want    string
	}{
		{"of none", "", nil, "-<"},
		{"of no sources", "- -!7", []int{}, "- -!7 -<"},
		{"of one", "- -", []int{2}, "- ->3 -<2"},
		{"of one twice", "-", []int{1, 1}, "->2 -<1"},
		{"of some, in their order", "- - -", []int{3, 1, 2, 3, 1}, "->4 ->4 ->4 -<3.1.2"},
		{"the last of the Dependents", "- - -<1 -<1.2", []int{2, 1}, "->3.4.5 ->4.5 -<1 -<1.2 -<2.1"},
		{"of one that depends on none", "- -<", []int{2}, "- -< -<"},
		{"of one that depends", "- - -<2.1", []int{3}, "->3.4 ->3.4 -<2.1 -<2.1"},
		{"by two ways", "- - - -<1.2 -<2.3", []int{4, 5}, "->4.6 ->4.5.6 ->5.6 -<1.2 -<2.3 -<1.2.3"},
		{"by two ways, itself first", "- - -<1.2", []int{2, 3}, "->3.4 ->3.4 -<1.2 -<2.1"},
		{"by one way, twice", "- - -<1.2", []int{3, 3}, "->3.4 ->3.4 -<1.2 -<1.2"},
		{"of one that is aborted", "-!7", []int{1}, "-!7 -!7"},
		{"aborted behind one that is not", "- -!7", []int{1, 2}, "- -!7 -!7"},
		{"of two that are", "- -!7 -!8", []int{1, 3, 2}, "- -!7 -!8 -!8"},
		{"of one that depends and is", "- -!7 -!7<1.2", []int{1, 3}, "->3 -!7>3 -!7<1.2 -!7"},
		{"of one that is of another reason", "- -!8<1", []int{2}, "->2 -!8<1 -!8"},
		{"beside one that is", "- -!7 -!7<1.2", []int{1}, "->3.4 -!7>3 -!7<1.2 -<1"},
	} {
		l, h, why := abort.Any(read(x.l), x.sources)
		wantList(t, x.what, l, why, x.want)
		if h != len(l) {
			t.Errorf("%s: its handle: %d", x.what, h)
		}
	}
}

// 23.3: as many signals, and as many sources, as may be.
func TestAnyOfMost(t *testing.T) {
	all := make([]int, api.MaxSignals)
	for i := range all {
		all[i] = i%(api.MaxSignals-1) + 1
	}
	l, h, why := abort.Any(make([]api.Signal, api.MaxSignals-1), all)
	if why != api.OK || h != api.MaxSignals || !slices.Equal(l[h-1].Sources, all[:h-1]) {
		t.Error("of all:", h, why)
	}
	less := most()[:api.MaxSignals-1]
	for i := range less[:api.MaxSignals/2] {
		less[i].Dependents = less[i].Dependents[:api.MaxSignals/2-1]
	}
	slices.Reverse(all)
	l, h, why = abort.Any(less, all)
	if why != api.OK || h != api.MaxSignals || len(l[h-1].Sources) != api.MaxSignals/2 || abort.Check(l) != api.OK {
		t.Error("of all, who depend on all:", h, why)
	}
}

// 23.4: who is aborted, and told.
func TestAbort(t *testing.T) {
	for _, x := range []struct {
		what, l   string
		h, reason int
		want      string
		told      []int
	}{
		{"one alone", "- -", 2, 7, "- -!7", []int{2}},
		{"without a reason", "- -<1", 1, 0, "-!21>2 -!21<1", []int{1, 2}},
		{"a reason below 0", "-", 1, -1, "-!-1", []int{1}},
		{"with Dependents", "- - -<1.2 -<2 -<1", 1, 7, "-!7>3.5 ->3.4 -!7<1.2 -<2 -!7<1", []int{1, 3, 5}},
		{"of which some are", "- -!8 -<1 -!8<1.2 -<1", 1, 7, "-!7>3.4.5 -!8>4 -!7<1 -!8<1.2 -!7<1", []int{1, 3, 5}},
		{"of which all are", "- -!8<1", 1, 7, "-!7>2 -!8<1", []int{1}},
		{"a Dependent ahead of it", "-<2 -", 2, 7, "-!7<2 -!7>1", []int{2, 1}},
		{"aborted already", "-!7", 1, 8, "-!7", nil},
		{"aborted already, without a reason", "-!7", 1, 0, "-!7", nil},
		{"aborted already, with Dependents", "-!7 -!7<1 -!9<1", 1, 8, "-!7>2.3 -!7<1 -!9<1", nil},
	} {
		l, told, why := abort.Abort(read(x.l), x.h, x.reason)
		wantList(t, x.what, l, why, x.want)
		if !slices.Equal(told, x.told) {
			t.Errorf("%s: told %v; want %v", x.what, told, x.told)
		}
	}
	mixed := with(read("- -<1 -!8<1 -<1 -<1"), 1, func(s *api.Signal) { s.Dependents = []int{4, 2, 3, 5} })
	l, told, why := abort.Abort(mixed, 1, 7)
	wantList(t, "in the order of Dependents", l, why, "-!7>4.2.3.5 -!7<1 -!8<1 -!7<1 -!7<1")
	if !slices.Equal(told, []int{1, 4, 2, 5}) {
		t.Error("in the order of Dependents:", told)
	}
	l, told, why = abort.Abort(most(), 2, 7)
	if why != api.OK || len(told) != 1+api.MaxSignals/2 || abort.Check(l) != api.OK {
		t.Error("as many as may be:", len(told), why)
	}
}

// 23.1: whether one is aborted, and its reason.
func TestOf(t *testing.T) {
	l := read("- -!7 -< -!-8< -!9<2")
	for i, want := range []struct {
		is bool
		by int
	}{{false, 0}, {true, 7}, {false, 0}, {true, -8}, {true, 9}} {
		wantOf(t, "of some", l, i+1, want.is, want.by)
	}
}
