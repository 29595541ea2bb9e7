package react_test

import (
	"fmt"
	"math"
	"testing"

	"canopy/api"
	"canopy/react"
)

// wantTaken sees what is taken, and what is left.
func wantTaken(t *testing.T, what string, s api.Reacts, l []int, r api.Reaction, is bool, why api.Errno, wantWord, wantLeft, wantList string) {
	t.Helper()
	got := ""
	if r != (api.Reaction{}) {
		got = fmt.Sprintf("%d%s", r.Element, word(r))
	}
	if why != api.OK || is != (wantWord != "") || got != wantWord || written(s) != wantLeft || dots(l) != wantList {
		t.Errorf("%s: %s, %s, %v, %v, error %d; want %s, %s, %s", what, got, written(s), l, is, why, wantWord, wantLeft, wantList)
	}
	if why := react.Check(s); why != api.OK {
		t.Errorf("%s: what is answered is not right: %s", what, written(s))
	}
}

// P26.5: the next reaction of a list of elements.
func TestTake(t *testing.T) {
	one := []api.ReactQueue{queue(2, 1)}
	some := []api.ReactQueue{queue(5, 2), queue(2, 1), queue(3, 3)}
	for _, x := range []struct {
		what             string
		q                []api.ReactQueue
		l                []int
		word, left, list string
	}{
		{"of none", some, nil, "", "5(+1 +2) 2(+1) 3(+1 +2 +3)", ""},
		{"where nothing waits", nil, []int{2, 3}, "", "", ""},
		{"of those without a queue", some, []int{1, 4, 6}, "", "5(+1 +2) 2(+1) 3(+1 +2 +3)", ""},
		{"of numbers that are no elements", some, []int{0, -1, math.MinInt, math.MaxInt}, "", "5(+1 +2) 2(+1) 3(+1 +2 +3)", ""},
		{"the last of a queue", one, []int{2}, "2+1", "", ""},
		{"the last of a queue, others", some, []int{2, 3, 5}, "2+1", "5(+1 +2) 3(+1 +2 +3)", "3.5"},
		{"one of several", some, []int{5}, "5+1", "5(+2) 2(+1) 3(+1 +2 +3)", "5"},
		{"one of several, others", some, []int{3, 5, 2}, "3+1", "5(+1 +2) 2(+1) 3(+2 +3)", "3.5.2"},
		{"the first have no queue", some, []int{4, 1, 5, 2}, "5+1", "5(+2) 2(+1) 3(+1 +2 +3)", "5.2"},
		{"the first have none, the last of a queue", some, []int{0, 4, 2, 4, 5}, "2+1", "5(+1 +2) 3(+1 +2 +3)", "4.5"},
		{"there twice, the last of a queue", one, []int{2, 2}, "2+1", "", "2"},
		{"there twice, one of several", some, []int{5, 2, 5}, "5+1", "5(+2) 2(+1) 3(+1 +2 +3)", "5.2.5"},
		{"behind one that is", some, []int{2, 2, 2, 3}, "2+1", "5(+1 +2) 3(+1 +2 +3)", "2.2.3"},
	} {
		s, l, r, is, why := react.Take(api.Reacts{Queues: x.q}, x.l)
		wantTaken(t, x.what, s, l, r, is, why, x.word, x.left, x.list)
		whole := api.Reacts{Queues: x.q, Stack: lists([]int{2, 7}, nil), Backup: []int{5, 5}, Busy: true}
		left := x.left
		if left != "" {
			left += " "
		}
		s, l, r, is, why = react.Take(whole, x.l)
		wantTaken(t, x.what+", with lists", s, l, r, is, why, x.word, left+"|2.7 | =5.5 *", x.list)
	}
	full := api.Reacts{Queues: []api.ReactQueue{queue(2, api.MaxReactions)}}
	many := append(numbers(api.MaxReactions-1, 9), 2)
	s, l, _, is, why := react.Take(full, many)
	if why != api.OK || !is || len(s.Queues[0].List) != api.MaxReactions-1 || dots(l) != "2" {
		t.Error("as many as may be:", l, is, why)
	}
	if s, l, r, is, why := react.Take(full, append(many, 2)); why != api.ErrMany || is || l != nil || r != (api.Reaction{}) || !zero(s) {
		t.Error("one too many:", l, is, why)
	}
}

// P26.5: the next reaction of the backup list, which is what is left then; it is Busy no more where there is none.
func TestBackup(t *testing.T) {
	some := []api.ReactQueue{queue(5, 2), queue(2, 1)}
	for _, x := range []struct {
		what       string
		s          api.Reacts
		word, left string
	}{
		{"nothing waits", api.Reacts{}, "", ""},
		{"nothing waits, Busy", api.Reacts{Busy: true}, "", ""},
		{"none of it has a queue", api.Reacts{Queues: some, Backup: []int{3, 4}, Busy: true}, "", "5(+1 +2) 2(+1)"},
		{"none of it has a queue, not Busy", api.Reacts{Queues: some, Backup: []int{3, 4}}, "", "5(+1 +2) 2(+1)"},
		{"queues that are of others", api.Reacts{Queues: some, Stack: lists([]int{5, 2}), Busy: true}, "", "5(+1 +2) 2(+1) |5.2"},
		{"one of several", api.Reacts{Queues: some, Backup: []int{5, 2}, Busy: true}, "5+1", "5(+2) 2(+1) =5.2 *"},
		{"the last of a queue", api.Reacts{Queues: some, Backup: []int{2, 5}, Busy: true}, "2+1", "5(+1 +2) =5 *"},
		{"the last of all", api.Reacts{Queues: some[1:], Backup: []int{2}, Busy: true}, "2+1", "*"},
		{"the last, with one that has none", api.Reacts{Queues: some[1:], Backup: []int{2, 2, 7}, Busy: true}, "2+1", "=2.7 *"},
		{"the first have none", api.Reacts{Queues: some, Backup: []int{7, 8, 2, 5}, Busy: true}, "2+1", "5(+1 +2) =5 *"},
		{"not Busy", api.Reacts{Queues: some, Backup: []int{2, 5}}, "2+1", "5(+1 +2) =5"},
		{"with a stack", api.Reacts{Queues: some, Stack: lists([]int{2}, nil), Backup: []int{2}, Busy: true}, "2+1", "5(+1 +2) |2 | *"},
	} {
		s, r, is, why := react.Backup(x.s)
		wantTaken(t, x.what, s, nil, r, is, why, x.word, x.left, "")
	}
	s := api.Reacts{Queues: []api.ReactQueue{queue(2, api.MaxReactions)}, Backup: numbers(api.MaxReactions, 2), Busy: true}
	taken := 0
	for {
		next, r, is, why := react.Backup(s)
		fine(t, why)
		if s = next; !is {
			break
		}
		if taken++; r.Callback != taken {
			t.Fatal(r)
		}
	}
	if taken != api.MaxReactions || written(s) != "" {
		t.Error("as many as may be:", taken, written(s))
	}
}
