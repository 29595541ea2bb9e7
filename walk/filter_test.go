package walk_test

import (
	"slices"
	"testing"

	"canopy/api"
	"canopy/forest"
	"canopy/walk"
)

// kinds has a node of each kind, by its number, and a second element, with a prefix and a namespace.
func kinds(t *testing.T) (api.Forest, map[api.NodeKind]int, int) {
	t.Helper()
	f := forest.New(true)
	at := map[api.NodeKind]int{api.KindDocument: 1}
	for _, n := range []api.Node{
		{Kind: api.KindElement, Name: api.Name{Local: "a"}, Shadow: 9},
		{Kind: api.KindText, Data: api.Units{'a'}},
		{Kind: api.KindCData},
		{Kind: api.KindInstruction, Name: api.Name{Local: "a"}},
		{Kind: api.KindComment},
		{Kind: api.KindDoctype, Name: api.Name{Local: "a"}},
		{Kind: api.KindFragment},
		{Kind: api.KindShadow, Host: 2, Mode: api.ShadowClosed},
		{Kind: api.KindElement, Name: api.Name{Space: "u", Prefix: "p", Local: "b"}},
	} {
		n.Doc = 1
		f.Nodes = append(f.Nodes, n)
		if _, is := at[n.Kind]; !is {
			at[n.Kind] = len(f.Nodes)
		}
	}
	if why, h := forest.Check(f); why != api.OK || len(at) != 9 {
		t.Fatalf("the test's own forest is not right: at %d", h)
	}
	return f, at, len(f.Nodes)
}

func wantVerdict(t *testing.T, what string, f api.Forest, flt api.Filter, h int, want api.Verdict) {
	t.Helper()
	if got, why := walk.Accept(f, flt, h); why != api.OK || got != want {
		t.Errorf("%s: of %d it says %d, error %d; want %d", what, h, got, why, want)
	}
}

// Words: each kind is shown by its own bit alone, a shadow root by that of a fragment.
func TestShow(t *testing.T) {
	f, at, _ := kinds(t)
	bits := map[api.NodeKind]int{
		api.KindElement: 0, api.KindText: 2, api.KindCData: 3, api.KindInstruction: 6, api.KindComment: 7,
		api.KindDocument: 8, api.KindDoctype: 9, api.KindFragment: 10, api.KindShadow: 10,
	}
	for kind, h := range at {
		for bit := range 32 {
			want := api.VerdictSkip
			if bit == bits[kind] {
				want = api.VerdictAccept
			}
			wantVerdict(t, "one bit", f, api.Filter{Show: 1 << bit}, h, want)
			turned := api.VerdictAccept + api.VerdictSkip - want
			wantVerdict(t, "all bits but one", f, api.Filter{Show: api.ShowAll &^ (1 << bit)}, h, turned)
		}
		wantVerdict(t, "all", f, api.Filter{Show: api.ShowAll}, h, api.VerdictAccept)
		wantVerdict(t, "nothing", f, api.Filter{}, h, api.VerdictSkip)
		for _, v := range []api.Verdict{api.VerdictAccept, api.VerdictReject, api.VerdictSkip} {
			rules := []api.Rule{{Verdict: v}, {Kind: kind, Verdict: v}}
			wantVerdict(t, "nothing, whatever the rules say", f, api.Filter{Rules: rules}, h, api.VerdictSkip)
			wantVerdict(t, "all, by a rule of any kind and name", f, api.Filter{Show: api.ShowAll, Rules: rules}, h, v)
		}
	}
}

// Words: a rule fits a node of its kind, and of no other one; of 0 any.
func TestRuleOfKind(t *testing.T) {
	f, at, _ := kinds(t)
	for k := range 256 {
		rules := []api.Rule{{Kind: api.NodeKind(k), Verdict: api.VerdictReject}}
		for kind, h := range at {
			want := api.VerdictAccept
			if k == 0 || k == int(kind) {
				want = api.VerdictReject
			}
			wantVerdict(t, "a rule of a kind", f, api.Filter{Show: api.ShowAll, Rules: rules}, h, want)
		}
	}
}

// Words: a rule fits a node whose name's Local is its own, just as it is; of "" any. Elements, doctypes and instructions have such names.
func TestRuleOfName(t *testing.T) {
	f, at, b := kinds(t)
	named := []int{at[api.KindElement], at[api.KindDoctype], at[api.KindInstruction]}
	for i := range f.Nodes {
		h := i + 1
		for local, fits := range map[string]bool{
			"": true, "a": slices.Contains(named, h), "b": h == b, "A": false, "p:b": false, "p": false, "u": false, "aa": false, " ": false,
		} {
			want := api.VerdictAccept
			if fits {
				want = api.VerdictReject
			}
			rules := []api.Rule{{Local: local, Verdict: api.VerdictReject}}
			wantVerdict(t, "a rule of "+local, f, api.Filter{Show: api.ShowAll, Rules: rules}, h, want)
		}
	}
	both := api.Filter{Show: api.ShowAll, Rules: []api.Rule{{Kind: api.KindDoctype, Local: "a", Verdict: api.VerdictSkip}}}
	for i := range f.Nodes {
		want := api.VerdictAccept
		if i+1 == at[api.KindDoctype] {
			want = api.VerdictSkip
		}
		wantVerdict(t, "a rule of a kind and a name", f, both, i+1, want)
	}
}

// Words: of the rules that fit the first one holds.
func TestFirstRule(t *testing.T) {
	f, at, b := kinds(t)
	a := at[api.KindElement]
	rules := []api.Rule{
		{Kind: api.KindText, Verdict: api.VerdictReject},
		{Kind: api.KindElement, Local: "b", Verdict: api.VerdictAccept},
		{Local: "a", Verdict: api.VerdictSkip},
		{Kind: api.KindElement, Verdict: api.VerdictReject},
		{Verdict: api.VerdictSkip},
		{Local: "b", Verdict: api.VerdictReject},
	}
	flt := api.Filter{Show: api.ShowAll, Rules: rules}
	for h, want := range map[int]api.Verdict{
		a: api.VerdictSkip, b: api.VerdictAccept, at[api.KindText]: api.VerdictReject, at[api.KindComment]: api.VerdictSkip,
	} {
		wantVerdict(t, "the first rule", f, flt, h, want)
	}
	flt.Rules = rules[3:]
	wantVerdict(t, "the rules from the fourth on", f, flt, a, api.VerdictReject)
	wantVerdict(t, "the rules from the fourth on", f, flt, b, api.VerdictReject)
}

// Words, 13.1: MaxRules rules are asked to the last one; one more is ErrMany, whatever they are.
func TestMaxRules(t *testing.T) {
	f, at, _ := kinds(t)
	rules := slices.Repeat([]api.Rule{{Local: "x", Verdict: api.VerdictSkip}}, api.MaxRules)
	rules[api.MaxRules-1] = api.Rule{Local: "a", Verdict: api.VerdictReject}
	wantVerdict(t, "MaxRules rules", f, api.Filter{Show: api.ShowAll, Rules: rules}, at[api.KindElement], api.VerdictReject)
	for _, r := range []api.Rule{{Verdict: api.VerdictAccept}, {}, {Verdict: 77}} {
		more := append(slices.Clone(rules), r)
		wantRefused(t, "MaxRules rules and one more", f, api.Filter{Show: api.ShowAll, Rules: more}, 2, api.ErrMany)
	}
	wantRefused(t, "very many rules", f, api.Filter{Rules: make([]api.Rule, 1<<16)}, 2, api.ErrMany)
}

// Words, 13.1: a rule whose verdict is none of the three is ErrType, whether it fits or not, wherever it stands, and whatever is shown.
func TestWrongVerdict(t *testing.T) {
	f, _, _ := kinds(t)
	for v := range 256 {
		verdict := api.Verdict(v)
		if verdict == api.VerdictAccept || verdict == api.VerdictReject || verdict == api.VerdictSkip {
			continue
		}
		for _, show := range []uint32{0, 1, api.ShowAll} {
			for _, kind := range []api.NodeKind{0, api.KindElement, 99} {
				wrong, fine := api.Rule{Kind: kind, Verdict: verdict}, api.Rule{Verdict: api.VerdictAccept}
				for _, rules := range [][]api.Rule{{wrong}, {fine, wrong}, {wrong, fine}, append(slices.Repeat([]api.Rule{fine}, api.MaxRules-1), wrong)} {
					wantRefused(t, "a verdict of none", f, api.Filter{Show: show, Rules: rules}, 2, api.ErrType)
				}
			}
		}
	}
}
