package walk

import (
	"slices"

	"canopy/api"
	"canopy/forest"
)

// wrong is why a filter, or a node, can't be asked.
func wrong(f api.Forest, t api.Filter, handles ...int) api.Errno {
	if why, _ := forest.Check(f); why != api.OK {
		return why
	}
	for _, h := range handles {
		if h < 1 || h > len(f.Nodes) {
			return api.ErrRange
		}
	}
	switch {
	case len(t.Rules) > api.MaxRules:
		return api.ErrMany
	case slices.ContainsFunc(t.Rules, saysNothing):
		return api.ErrType
	}
	return api.OK
}

func saysNothing(r api.Rule) bool {
	return r.Verdict != api.VerdictAccept && r.Verdict != api.VerdictReject && r.Verdict != api.VerdictSkip
}

func verdict(t api.Filter, n api.Node) api.Verdict {
	if !shown(t.Show, n.Kind) {
		return api.VerdictSkip
	}
	for _, r := range t.Rules {
		if fits(r, n) {
			return r.Verdict
		}
	}
	return api.VerdictAccept
}

// shown goes by the numbers that people know, by which a shadow root is a fragment.
func shown(show uint32, k api.NodeKind) bool {
	if k == api.KindShadow {
		k = api.KindFragment
	}
	return show&(1<<(k-1)) != 0
}

func fits(r api.Rule, n api.Node) bool {
	return (r.Kind == 0 || r.Kind == n.Kind) && (r.Local == "" || r.Local == n.Name.Local)
}

func copyOf(t api.Filter) api.Filter { return api.Filter{Show: t.Show, Rules: slices.Clone(t.Rules)} }
