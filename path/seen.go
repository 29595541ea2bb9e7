package path

import (
	"iter"
	"slices"

	"canopy/api"
)

// turn tells whether a step goes into a closed tree, and whether the one behind it is out of one.
type turn func(api.Step) (into, out bool)

// toTarget and toTop are a step's turns, as a path is gone through towards its first or its last one.
func toTarget(s api.Step) (into, out bool) { return s.Closed, s.Slot }

func toTop(s api.Step) (into, out bool) { return s.Slot, s.Closed }

// seenFrom are the Items that a step of a path may see, in order.
func seenFrom(l []api.Step, at int) []int {
	ahead := seen(slices.Backward(l[:at]), toTarget)
	slices.Reverse(ahead)
	return slices.Concat(ahead, []int{l[at].Item}, seen(slices.All(l[at+1:]), toTop))
}

// seen are the Items of steps that are hidden no deeper than the least deep one on the way to them. How deep the step is hidden that they are seen from is no matter: depths are held against each other alone, so that they are counted from there on.
func seen(steps iter.Seq2[int, api.Step], turned turn) []int {
	var items []int
	deep, least := 0, 0
	for _, s := range steps {
		into, out := turned(s)
		if into {
			deep++
		}
		if deep <= least {
			items = append(items, s.Item)
		}
		if out {
			deep--
			least = min(least, deep)
		}
	}
	return items
}
