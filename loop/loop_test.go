package loop_test

import (
	"fmt"
	"math"
	"strings"
	"testing"

	"canopy/api"
	"canopy/loop"
)

func micro(id int) api.Turn        { return api.Turn{Kind: api.TurnMicro, Id: id} }
func task(source, id int) api.Turn { return api.Turn{Kind: api.TurnTask, Source: source, Id: id} }

// stand is all that can be told of a loop, asked of forks: the clock, what waits, by how it is answered, and when timers are due.
func stand(l *loop.Loop) string {
	var text strings.Builder
	tasks, micros, timers := l.Waiting()
	fmt.Fprintf(&text, "now %d, given %d, waiting %d %d %d:", l.Now(), l.Given(), tasks, micros, timers)
	f := l.Fork()
	drain := func() {
		for turn := f.Next(0); turn.Kind != api.TurnNone; turn = f.Next(0) {
			fmt.Fprintf(&text, " {%d %d %d}", turn.Kind, turn.Source, turn.Id)
		}
	}
	drain()
	for at, is := f.Due(); is; at, is = f.Due() {
		n, why := f.Advance(at - f.Now())
		fmt.Fprintf(&text, " at %d: %d %d", at, n, why)
		drain()
	}
	if l.Fork().Close() {
		return text.String() + " open"
	}
	return text.String() + " closed"
}

func wantStand(t *testing.T, what string, l *loop.Loop, want string) {
	t.Helper()
	if got := stand(l); got != want {
		t.Errorf("%s: %s; want %s", what, got, want)
	}
}

// wantNext has what is next answered, by the pick 0, till these have been.
func wantNext(t *testing.T, what string, l *loop.Loop, want ...api.Turn) {
	t.Helper()
	for i, turn := range want {
		if got := l.Next(0); got != turn {
			t.Errorf("%s: turn %d: %v; want %v", what, i, got, turn)
		}
	}
}

func wantWaiting(t *testing.T, what string, l *loop.Loop, tasks, micros, timers int) {
	t.Helper()
	if a, b, c := l.Waiting(); a != tasks || b != micros || c != timers {
		t.Errorf("%s: %d tasks, %d microtasks, %d timers wait; want %d, %d, %d", what, a, b, c, tasks, micros, timers)
	}
}

func wantDue(t *testing.T, what string, l *loop.Loop, want int64, is bool) {
	t.Helper()
	if at, due := l.Due(); at != want || due != is {
		t.Errorf("%s: due %d, %v; want %d, %v", what, at, due, want, is)
	}
}

func fine(t *testing.T, why api.Errno) {
	t.Helper()
	if why != api.OK {
		t.Fatal("error", why)
	}
}

// after has a timer, whose number must be that.
func after(t *testing.T, l *loop.Loop, ms int64, level, id, number int) {
	t.Helper()
	if n, why := l.After(ms, level, id); n != number || why != api.OK {
		t.Errorf("After(%d, %d, %d): %d, error %d; want %d", ms, level, id, n, why, number)
	}
}

func advance(t *testing.T, l *loop.Loop, ms int64, due int) {
	t.Helper()
	if n, why := l.Advance(ms); n != due || why != api.OK {
		t.Errorf("Advance(%d): %d, error %d; want %d", ms, n, why, due)
	}
}

// The chapter's example.
func TestExample(t *testing.T) {
	l := loop.New()
	fine(t, l.Task(1, 10))
	fine(t, l.Micro(20))
	after(t, l, 5, 0, 30, 1)
	wantWaiting(t, "three", l, 1, 1, 1)
	wantNext(t, "ahead of the timer", l, micro(20), task(1, 10), api.Turn{})
	advance(t, l, 5, 1)
	wantNext(t, "behind it", l, task(0, 30), api.Turn{})
	after(t, l, 1, 6, 31, 2)
	wantDue(t, "After(1, 6)", l, 9, true)
}

// 27.1: nothing waits, the clock is 0.
func TestNew(t *testing.T) {
	l := loop.New()
	wantStand(t, "New", l, "now 0, given 0, waiting 0 0 0: open")
	wantDue(t, "New", l, 0, false)
	wantNext(t, "New", l, api.Turn{}, api.Turn{})
	advance(t, l, 0, 0)
	if l.Clear(0) || l.Clear(1) {
		t.Error("a timer of a new loop")
	}
	if loop.New() == loop.New() {
		t.Error("two loops are one")
	}
}

// 27.1: a task of each source, with any id; a microtask likewise.
func TestTaskAndMicro(t *testing.T) {
	ids := []int{0, 1, -1, math.MinInt, math.MaxInt}
	for source := range api.MaxSources {
		l := loop.New()
		for i, id := range ids {
			fine(t, l.Task(source, id))
			wantWaiting(t, "tasks", l, i+1, 0, 0)
		}
		for _, id := range ids {
			wantNext(t, "a source", l, task(source, id))
		}
		wantNext(t, "a source", l, api.Turn{})
	}
	l := loop.New()
	for i, id := range ids {
		fine(t, l.Micro(id))
		wantWaiting(t, "microtasks", l, 0, i+1, 0)
	}
	for _, id := range ids {
		wantNext(t, "microtasks", l, micro(id))
	}
	wantNext(t, "microtasks", l, api.Turn{})
}

// Words (a timer's wait), 27.2: when a timer is due.
func TestAfter(t *testing.T) {
	const most = api.MaxClock
	for _, x := range []struct {
		now, ms int64
		level   int
		want    int64
	}{
		{0, 0, 0, 0}, {0, 1, 0, 1}, {0, 3, 5, 3}, {0, 0, 5, 0}, {0, -1, 5, 0}, {0, math.MinInt64, 0, 0}, {0, -1, 0, 0},
		{0, 0, 6, 4}, {0, 3, 6, 4}, {0, 4, 6, 4}, {0, 5, 6, 5}, {0, -1, 6, 4}, {0, math.MinInt64, math.MaxInt, 4}, {0, 1, 7, 4},
		{0, most, 0, most}, {0, most, 6, most}, {0, most - 1, 0, most - 1},
		{10, 0, 0, 10}, {10, -5, 0, 10}, {10, 7, 0, 17}, {10, 2, 6, 14}, {10, -5, 6, 14}, {10, most, 0, most}, {10, most - 10, 0, most}, {10, most - 11, 0, most - 1},
		{most - 3, 3, 0, most}, {most - 3, 4, 0, most}, {most - 3, 2, 0, most - 1}, {most - 3, 0, 6, most}, {most - 3, 0, 0, most - 3},
		{most, 0, 0, most}, {most, -1, 0, most}, {most, 1, 0, most}, {most, 0, 6, most}, {most, most, 6, most}, {most, math.MinInt64, 5, most},
	} {
		l := loop.New()
		advance(t, l, x.now, 0)
		after(t, l, x.ms, x.level, 7, 1)
		what := fmt.Sprintf("at %d After(%d, %d)", x.now, x.ms, x.level)
		wantDue(t, what, l, x.want, true)
		wantWaiting(t, what, l, 0, 0, 1)
		wantNext(t, what, l, api.Turn{})
		if x.want > x.now {
			advance(t, l, x.want-x.now-1, 0)
			advance(t, l, 1, 1)
		} else {
			advance(t, l, 0, 1)
		}
		wantNext(t, what, l, task(0, 7), api.Turn{})
		wantDue(t, what, l, 0, false)
	}
}

// Words (timers are due): in the order of their times, of one time in that in which they came, and behind tasks of the source 0 that came ahead.
func TestTimersInOrder(t *testing.T) {
	l := loop.New()
	for i, ms := range []int64{5, 3, 5, -1, 3, 0, 4, 5} {
		after(t, l, ms, 0, 10+i, i+1)
	}
	wantStand(t, "eight", l, "now 0, given 8, waiting 0 0 8: at 0: 2 0 {2 0 13} {2 0 15} at 3: 2 0 {2 0 11} {2 0 14} at 4: 1 0 {2 0 16} at 5: 3 0 {2 0 10} {2 0 12} {2 0 17} open")
	advance(t, l, 2, 2)
	after(t, l, 1, 0, 18, 9) // due at 3, as two that came ahead of it
	after(t, l, 0, 6, 19, 10)
	fine(t, l.Task(0, 90))
	advance(t, l, 8, 8)
	fine(t, l.Task(0, 91))
	wantWaiting(t, "past all", l, 12, 0, 0)
	for _, id := range []int{13, 15, 90, 11, 14, 18, 16, 10, 12, 17, 19, 91} {
		wantNext(t, "past all", l, task(0, id))
	}
	wantNext(t, "past all", l, api.Turn{})
}

// Words (timers are due): at MaxClock, where more than their times make them wait no longer, in the order in which they came.
func TestTimersAtTheEnd(t *testing.T) {
	l := loop.New()
	advance(t, l, api.MaxClock-2, 0)
	for i, ms := range []int64{api.MaxClock, 2, 1, 100, 3} {
		after(t, l, ms, 0, i, i+1)
	}
	advance(t, l, 2, 5)
	for _, id := range []int{2, 0, 1, 3, 4} {
		wantNext(t, "at MaxClock", l, task(0, id))
	}
	after(t, l, 1, 6, 5, 6)
	advance(t, l, 0, 1)
	wantNext(t, "behind that", l, task(0, 5), api.Turn{})
}

// 27.2: whether a timer waits; it waits no more.
func TestClear(t *testing.T) {
	l := loop.New()
	for i, ms := range []int64{9, 0, 5, 5, 5} {
		after(t, l, ms, 0, 10+i, i+1)
	}
	for _, n := range []int{0, -1, 6, 10, 13, math.MinInt, math.MaxInt} {
		if l.Clear(n) {
			t.Error("a timer that never was:", n)
		}
	}
	wantWaiting(t, "ahead", l, 0, 0, 5)
	if !l.Clear(4) || l.Clear(4) {
		t.Error("a timer that waits, and does no more")
	}
	wantWaiting(t, "behind", l, 0, 0, 4)
	if !l.Clear(2) {
		t.Error("a timer that is due, but is no task yet")
	}
	wantDue(t, "without the first", l, 5, true)
	advance(t, l, 5, 2)
	if l.Clear(3) || l.Clear(5) {
		t.Error("a timer that became a task")
	}
	wantWaiting(t, "tasks stay", l, 2, 0, 1)
	wantNext(t, "tasks stay", l, task(0, 12), task(0, 14), api.Turn{})
	if !l.Clear(1) {
		t.Error("the last one")
	}
	wantDue(t, "none", l, 0, false)
	advance(t, l, 9, 0)
	after(t, l, 1, 0, 15, 6)
	wantStand(t, "numbers go on", l, "now 14, given 6, waiting 0 0 1: at 15: 1 0 {2 0 15} open")
}

// 27.3: the clock, and who is due.
func TestAdvance(t *testing.T) {
	l := loop.New()
	for i, ms := range []int64{0, 1, 3, 3, 8, api.MaxClock} {
		after(t, l, ms, 0, i, i+1)
	}
	for _, x := range []struct {
		ms  int64
		n   int
		now int64
		due int64
		is  bool
	}{
		{0, 1, 0, 1, true}, {0, 0, 0, 1, true}, {1, 1, 1, 3, true}, {1, 0, 2, 3, true}, {4, 2, 6, 8, true}, {2, 1, 8, api.MaxClock, true},
		{api.MaxClock - 9, 0, api.MaxClock - 1, api.MaxClock, true}, {1, 1, api.MaxClock, 0, false}, {0, 0, api.MaxClock, 0, false},
	} {
		advance(t, l, x.ms, x.n)
		if l.Now() != x.now {
			t.Errorf("Advance(%d): now %d; want %d", x.ms, l.Now(), x.now)
		}
		wantDue(t, fmt.Sprintf("Advance(%d)", x.ms), l, x.due, x.is)
	}
	wantWaiting(t, "all", l, 6, 0, 0)
	if l.Given() != 6 {
		t.Error("given:", l.Given())
	}
	far := loop.New()
	advance(t, far, api.MaxClock, 0)
	if far.Now() != api.MaxClock {
		t.Error("at once:", far.Now())
	}
}

// 27.4: microtasks first; then the source that the pick falls on.
func TestNext(t *testing.T) {
	for _, x := range []struct {
		sources []int
		pick    int
		want    int
	}{
		{[]int{3}, 0, 3}, {[]int{3}, 1, 3}, {[]int{3}, -1, 3}, {[]int{3}, math.MinInt, 3}, {[]int{3}, math.MaxInt, 3},
		{[]int{5, 1}, 0, 1}, {[]int{5, 1}, 1, 5}, {[]int{5, 1}, 2, 1}, {[]int{5, 1}, -1, 5}, {[]int{5, 1}, -2, 1},
		{[]int{5, 1}, math.MinInt, 1}, {[]int{5, 1}, math.MaxInt, 5},
		{[]int{7, 0, 4}, 0, 0}, {[]int{7, 0, 4}, 1, 4}, {[]int{7, 0, 4}, 2, 7}, {[]int{7, 0, 4}, 3, 0}, {[]int{7, 0, 4}, 7, 4},
		{[]int{7, 0, 4}, -1, 7}, {[]int{7, 0, 4}, -2, 4}, {[]int{7, 0, 4}, -3, 0}, {[]int{7, 0, 4}, -4, 7},
		{[]int{7, 0, 4}, math.MinInt, 4}, {[]int{7, 0, 4}, math.MaxInt, 4}, // 2^63 is 2 more than a multiple of 3
		{[]int{0, 1, 2, 3, 4, 5, 6, 7}, 6, 6}, {[]int{0, 1, 2, 3, 4, 5, 6, 7}, 8, 0}, {[]int{0, 1, 2, 3, 4, 5, 6, 7}, -1, 7},
		{[]int{0, 1, 2, 3, 4, 5, 6, 7}, math.MinInt, 0}, {[]int{0, 1, 2, 3, 4, 5, 6, 7}, math.MaxInt, 7},
		{[]int{0, 1, 2, 3, 5, 6, 7}, math.MinInt, 7}, {[]int{0, 1, 2, 3, 5, 6, 7}, math.MaxInt, 0}, // and 1 more than one of 7
	} {
		l := loop.New()
		for _, source := range x.sources {
			fine(t, l.Task(source, 10+source))
			fine(t, l.Task(source, 20+source))
		}
		what := fmt.Sprintf("sources %v, pick %d", x.sources, x.pick)
		fine(t, l.Micro(1))
		fine(t, l.Micro(2))
		for _, want := range []api.Turn{micro(1), micro(2), task(x.want, 10+x.want), task(x.want, 20+x.want)} {
			if got := l.Next(x.pick); got != want {
				t.Errorf("%s: %v; want %v", what, got, want)
			}
		}
		wantWaiting(t, what, l, 2*len(x.sources)-2, 0, 0)
	}
	for _, pick := range []int{0, 1, -1, 8, math.MinInt, math.MaxInt} {
		l := loop.New()
		after(t, l, 0, 0, 5, 1)
		if got := l.Next(pick); got != (api.Turn{}) {
			t.Errorf("nothing, pick %d: %v", pick, got)
		}
		wantWaiting(t, "nothing", l, 0, 0, 1)
	}
}

// 27.4: a source counts only while tasks wait there.
func TestNextAmongSources(t *testing.T) {
	l := loop.New()
	for source, ids := range [][]int{2: {1, 2}, 4: {3}, 6: {4, 5}} {
		for _, id := range ids {
			fine(t, l.Task(source, id))
		}
	}
	for i, x := range []struct {
		pick int
		want api.Turn
	}{{1, task(4, 3)}, {1, task(6, 4)}, {3, task(6, 5)}, {1, task(2, 1)}, {-1, task(2, 2)}, {0, api.Turn{}}} {
		if got := l.Next(x.pick); got != x.want {
			t.Errorf("turn %d, pick %d: %v; want %v", i, x.pick, got, x.want)
		}
	}
}

// busy is a loop in which something of each sort waits.
func busy(t *testing.T) *loop.Loop {
	t.Helper()
	l := loop.New()
	advance(t, l, 7, 0)
	after(t, l, 0, 0, 1, 1)
	advance(t, l, 1, 1)
	after(t, l, 5, 0, 2, 2)
	after(t, l, 2, 0, 3, 3)
	after(t, l, 9, 0, 4, 4)
	if !l.Clear(4) {
		t.Error("Clear")
	}
	fine(t, l.Task(3, 5))
	fine(t, l.Task(0, 6))
	fine(t, l.Micro(7))
	fine(t, l.Micro(8))
	return l
}

const busyStand = "now 8, given 4, waiting 3 2 2: {1 0 7} {1 0 8} {2 0 1} {2 0 6} {2 3 5} at 10: 1 0 {2 0 3} at 13: 1 0 {2 0 2} open"

// 27.5: whether it was not closed yet; nothing waits, the clock stays.
func TestClose(t *testing.T) {
	l := busy(t)
	wantStand(t, "ahead", l, busyStand)
	const closed = "now 8, given 4, waiting 0 0 0: closed"
	for i, want := range []bool{true, false, false} {
		if l.Close() != want {
			t.Error("time", i)
		}
		wantStand(t, "closed", l, closed)
	}
	wantDue(t, "closed", l, 0, false)
	wantNext(t, "closed", l, api.Turn{}, api.Turn{})
	if l.Clear(2) || l.Clear(3) {
		t.Error("a timer of a closed loop")
	}
	wantStand(t, "asked", l, closed)
	if n := loop.New(); !n.Close() || n.Close() {
		t.Error("a new one")
	}
}

// 27.1: a fork stands as its loop, a closed one closed.
func TestFork(t *testing.T) {
	l := busy(t)
	f := l.Fork()
	if f == l {
		t.Fatal("a fork is its loop")
	}
	wantStand(t, "a fork", f, busyStand)
	wantStand(t, "a fork's fork", f.Fork(), busyStand)
	if !f.Close() {
		t.Error("a fork is closed")
	}
	wantStand(t, "the loop of a closed fork", l, busyStand)
	if f.Fork().Close() || f.Fork().Task(0, 1) != api.ErrState {
		t.Error("a fork of a closed loop is open")
	}
	wantStand(t, "a closed fork's fork", f.Fork(), "now 8, given 4, waiting 0 0 0: closed")
	f = l.Fork()
	if !l.Close() {
		t.Error("the loop is closed")
	}
	wantStand(t, "the fork of a loop that is closed then", f, busyStand)
	wantStand(t, "a new one's", loop.New().Fork(), "now 0, given 0, waiting 0 0 0: open")
}

// 27.6: each kind is its call, with its own fields.
func TestDo(t *testing.T) {
	l := loop.New()
	for i, x := range []struct {
		step   api.LoopStep
		number int64
		turn   api.Turn
		why    api.Errno
	}{
		{api.LoopStep{Kind: api.LoopTask, Source: 2, Id: 10, Ms: -1, Level: -1, Timer: 9}, 0, api.Turn{}, api.OK},
		{api.LoopStep{Kind: api.LoopMicro, Id: 11, Source: 99, Ms: -1, Level: -1, Timer: 9}, 0, api.Turn{}, api.OK},
		{api.LoopStep{Kind: api.LoopAfter, Ms: 5, Level: 0, Id: 12, Source: 99, Timer: 9}, 1, api.Turn{}, api.OK},
		{api.LoopStep{Kind: api.LoopAfter, Ms: 1, Level: 6, Id: 13}, 2, api.Turn{}, api.OK},
		{api.LoopStep{Kind: api.LoopAfter, Ms: -4, Level: 5, Id: 14}, 3, api.Turn{}, api.OK},
		{api.LoopStep{Kind: api.LoopTask, Source: 4, Id: 15}, 0, api.Turn{}, api.OK},
		{api.LoopStep{Kind: api.LoopClear, Timer: 1, Id: 3, Source: -1}, 1, api.Turn{}, api.OK},
		{api.LoopStep{Kind: api.LoopClear, Timer: 1}, 0, api.Turn{}, api.OK},
		{api.LoopStep{Kind: api.LoopNext, Source: 1, Id: 4, Timer: 9}, 0, micro(11), api.OK},
		{api.LoopStep{Kind: api.LoopNext, Source: -1}, 0, task(4, 15), api.OK},
		{api.LoopStep{Kind: api.LoopAdvance, Ms: 4, Id: 1, Source: -1, Level: -1}, 2, api.Turn{}, api.OK},
		{api.LoopStep{Kind: api.LoopNext, Source: 1}, 0, task(2, 10), api.OK},
		{api.LoopStep{Kind: api.LoopNext, Source: 5}, 0, task(0, 14), api.OK},
		{api.LoopStep{Kind: api.LoopTask, Source: 8}, 0, api.Turn{}, api.ErrRange},
		{api.LoopStep{Kind: api.LoopAfter, Ms: api.MaxClock + 1}, 0, api.Turn{}, api.ErrRange},
		{api.LoopStep{Kind: api.LoopAfter, Level: -1}, 0, api.Turn{}, api.ErrRange},
		{api.LoopStep{Kind: api.LoopAdvance, Ms: -1}, 0, api.Turn{}, api.ErrRange},
		{api.LoopStep{}, 0, api.Turn{}, api.ErrType},
		{api.LoopStep{Kind: api.LoopCount}, 0, api.Turn{}, api.ErrType},
		{api.LoopStep{Kind: 255, Source: 1, Id: 1, Ms: 1, Timer: 1}, 0, api.Turn{}, api.ErrType},
		{api.LoopStep{Kind: api.LoopNext}, 0, task(0, 13), api.OK},
		{api.LoopStep{Kind: api.LoopNext, Source: 7}, 0, api.Turn{}, api.OK},
		{api.LoopStep{Kind: api.LoopClose, Id: 1}, 1, api.Turn{}, api.OK},
		{api.LoopStep{Kind: api.LoopClose}, 0, api.Turn{}, api.OK},
		{api.LoopStep{Kind: api.LoopTask, Source: 8}, 0, api.Turn{}, api.ErrState},
		{api.LoopStep{Kind: api.LoopMicro}, 0, api.Turn{}, api.ErrState},
		{api.LoopStep{Kind: api.LoopAfter, Level: -1}, 0, api.Turn{}, api.ErrState},
		{api.LoopStep{Kind: api.LoopAdvance, Ms: -1}, 0, api.Turn{}, api.ErrState},
		{api.LoopStep{Kind: api.LoopClear, Timer: 2}, 0, api.Turn{}, api.OK},
		{api.LoopStep{Kind: api.LoopNext}, 0, api.Turn{}, api.OK},
		{api.LoopStep{Kind: api.LoopCount}, 0, api.Turn{}, api.ErrType},
	} {
		number, turn, why := l.Do(x.step)
		if number != x.number || turn != x.turn || why != x.why {
			t.Errorf("step %d, %+v: %d, %v, error %d; want %d, %v, %d", i, x.step, number, turn, why, x.number, x.turn, x.why)
		}
	}
	if l.Now() != 4 || l.Given() != 3 || !strings.HasSuffix(stand(l), "closed") {
		t.Error(stand(l))
	}
}
