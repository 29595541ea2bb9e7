package loop_test

import (
	"math"
	"testing"

	"canopy/api"
	"canopy/loop"
)

// 27.7, P1: of a nil loop.
func TestNil(t *testing.T) {
	var l *loop.Loop
	if l.Fork() != nil {
		t.Error("Fork")
	}
	for _, n := range []int{0, 1, -1, 8, math.MaxInt, math.MinInt} {
		if l.Task(n, n) != api.ErrNil || l.Micro(n) != api.ErrNil {
			t.Error("Task, Micro")
		}
		if number, why := l.After(int64(n), n, n); number != 0 || why != api.ErrNil {
			t.Error("After:", number, why)
		}
		if number, why := l.Advance(int64(n)); number != 0 || why != api.ErrNil {
			t.Error("Advance:", number, why)
		}
		if l.Clear(n) || l.Next(n) != (api.Turn{}) {
			t.Error("Clear, Next")
		}
	}
	if l.Close() || l.Close() || l.Now() != 0 || l.Given() != 0 {
		t.Error("Close, Now, Given")
	}
	wantWaiting(t, "nil", l, 0, 0, 0)
	wantDue(t, "nil", l, 0, false)
	for kind := api.LoopNone; kind <= api.LoopCount; kind++ {
		if number, turn, why := l.Do(api.LoopStep{Kind: kind}); number != 0 || turn != (api.Turn{}) || why != api.ErrNil {
			t.Error("Do:", kind, number, turn, why)
		}
	}
}

// wantRefused sees that a call is refused, by itself and by Do, and changes nothing.
func wantRefused(t *testing.T, what string, l *loop.Loop, s api.LoopStep, want api.Errno) {
	t.Helper()
	was := stand(l)
	number, why := 0, api.OK
	switch s.Kind {
	case api.LoopTask:
		why = l.Task(s.Source, s.Id)
	case api.LoopMicro:
		why = l.Micro(s.Id)
	case api.LoopAfter:
		number, why = l.After(s.Ms, s.Level, s.Id)
	case api.LoopAdvance:
		number, why = l.Advance(s.Ms)
	}
	if s.Kind < api.LoopCount && (number != 0 || why != want) {
		t.Errorf("%s: %+v: %d, error %d; want %d", what, s, number, why, want)
	}
	if number, turn, why := l.Do(s); number != 0 || turn != (api.Turn{}) || why != want {
		t.Errorf("%s: Do %+v: %d, %v, error %d; want %d", what, s, number, turn, why, want)
	}
	if is := stand(l); is != was {
		t.Errorf("%s: %+v is refused, but changes %s to %s", what, s, was, is)
	}
}

// outOfRange are steps whose numbers are out of their range for each loop, whatever waits.
func outOfRange() []api.LoopStep {
	var l []api.LoopStep
	for _, source := range []int{-1, api.MaxSources, api.MaxSources + 1, math.MinInt, math.MaxInt} {
		l = append(l, api.LoopStep{Kind: api.LoopTask, Source: source, Id: 1})
	}
	for _, ms := range []int64{api.MaxClock + 1, math.MaxInt64} {
		for _, level := range []int{0, 5, 6, -1} {
			l = append(l, api.LoopStep{Kind: api.LoopAfter, Ms: ms, Level: level, Id: 1})
		}
	}
	for _, level := range []int{-1, math.MinInt} {
		for _, ms := range []int64{0, 1, -1, api.MaxClock} {
			l = append(l, api.LoopStep{Kind: api.LoopAfter, Ms: ms, Level: level, Id: 1})
		}
	}
	for _, ms := range []int64{-1, math.MinInt64, api.MaxClock + 1, math.MaxInt64} {
		l = append(l, api.LoopStep{Kind: api.LoopAdvance, Ms: ms})
	}
	return l
}

// 27.1 to 27.3: what is out of its range.
func TestRange(t *testing.T) {
	for _, s := range outOfRange() {
		wantRefused(t, "new", loop.New(), s, api.ErrRange)
		wantRefused(t, "busy", busy(t), s, api.ErrRange)
	}
	for _, now := range []int64{1, 8, api.MaxClock - 1, api.MaxClock} {
		l := loop.New()
		advance(t, l, now, 0)
		after(t, l, 1, 0, 1, 1)
		for _, ms := range []int64{api.MaxClock - now + 1, api.MaxClock, math.MaxInt64 - now, math.MaxInt64 - now + 1, math.MaxInt64} {
			wantRefused(t, "beyond MaxClock", l, api.LoopStep{Kind: api.LoopAdvance, Ms: ms}, api.ErrRange)
		}
	}
}

// 27.1 to 27.3: of a closed loop ErrState goes ahead of all else.
func TestClosed(t *testing.T) {
	for what, l := range map[string]*loop.Loop{"new": loop.New(), "busy": busy(t), "full": filled(t, func(l *loop.Loop, i int) api.Errno { return l.Micro(i) })} {
		l.Close()
		for _, l := range []*loop.Loop{l, l.Fork()} {
			for _, s := range append(outOfRange(),
				api.LoopStep{Kind: api.LoopTask}, api.LoopStep{Kind: api.LoopMicro}, api.LoopStep{Kind: api.LoopAfter}, api.LoopStep{Kind: api.LoopAdvance}) {
				wantRefused(t, what, l, s, api.ErrState)
			}
			for _, kind := range []api.LoopKind{api.LoopNone, api.LoopCount, api.LoopCount + 1, 255} {
				wantType(t, l, kind)
			}
		}
	}
}

func wantType(t *testing.T, l *loop.Loop, kind api.LoopKind) {
	t.Helper()
	was := stand(l)
	number, turn, why := l.Do(api.LoopStep{Kind: kind, Source: 1, Id: 1, Ms: 1, Level: 1, Timer: 2})
	if number != 0 || turn != (api.Turn{}) || why != api.ErrType || stand(l) != was {
		t.Errorf("Do of the kind %d: %d, %v, error %d", kind, number, turn, why)
	}
}

// 27.6: what is no kind.
func TestNoKind(t *testing.T) {
	l := busy(t)
	wantType(t, l, api.LoopNone)
	for kind := int(api.LoopCount); kind < 256; kind++ {
		wantType(t, l, api.LoopKind(kind))
	}
}

// filled has MaxTasks wait.
func filled(t *testing.T, more func(l *loop.Loop, i int) api.Errno) *loop.Loop {
	t.Helper()
	l := loop.New()
	for i := range api.MaxTasks {
		fine(t, more(l, i))
	}
	return l
}

func aTimer(l *loop.Loop, i int) api.Errno {
	_, why := l.After(int64(i%7), 0, i)
	return why
}

// Words (what waits), 27.1, 27.2: MaxTasks in all, of each sort and of all together, and one more; what is out of its range goes ahead.
func TestMany(t *testing.T) {
	for what, l := range map[string]*loop.Loop{
		"tasks of one source": filled(t, func(l *loop.Loop, i int) api.Errno { return l.Task(3, i) }),
		"tasks of all":        filled(t, func(l *loop.Loop, i int) api.Errno { return l.Task(i%api.MaxSources, i) }),
		"microtasks":          filled(t, func(l *loop.Loop, i int) api.Errno { return l.Micro(i) }),
		"timers":              filled(t, aTimer),
		"all": filled(t, func(l *loop.Loop, i int) api.Errno {
			switch i % 3 {
			case 0:
				return l.Task(i%api.MaxSources, i)
			case 1:
				return l.Micro(i)
			}
			return aTimer(l, i)
		}),
	} {
		for source := range api.MaxSources {
			wantRefused(t, what, l, api.LoopStep{Kind: api.LoopTask, Source: source}, api.ErrMany)
		}
		wantRefused(t, what, l, api.LoopStep{Kind: api.LoopMicro}, api.ErrMany)
		for _, ms := range []int64{-1, 0, 5, api.MaxClock} {
			wantRefused(t, what, l, api.LoopStep{Kind: api.LoopAfter, Ms: ms}, api.ErrMany)
		}
		for _, s := range outOfRange() {
			wantRefused(t, what, l, s, api.ErrRange)
		}
		if l.Fork().Micro(1) != api.ErrMany {
			t.Errorf("%s: a fork has room", what)
		}
		wantRoomForOne(t, what, l)
	}
}

// wantRoomForOne has the first thing of a full loop answered, or cleared: then there is room for one, of any sort.
func wantRoomForOne(t *testing.T, what string, l *loop.Loop) {
	t.Helper()
	if l.Next(0).Kind == api.TurnNone && !l.Clear(7) {
		t.Errorf("%s: nothing goes", what)
	}
	for sort, more := range map[string]func(l *loop.Loop) api.Errno{
		"a task":      func(l *loop.Loop) api.Errno { return l.Task(7, 1) },
		"a microtask": func(l *loop.Loop) api.Errno { return l.Micro(1) },
		"a timer":     func(l *loop.Loop) api.Errno { return aTimer(l, 1) },
	} {
		f := l.Fork()
		if first, second := more(f), more(f); first != api.OK || second != api.ErrMany {
			t.Errorf("%s: %s more: errors %d, %d", what, sort, first, second)
		}
	}
}

// 27.3: timers that become tasks need no room, and leave none.
func TestAdvanceOfMany(t *testing.T) {
	l := filled(t, aTimer)
	advance(t, l, 6, api.MaxTasks)
	wantWaiting(t, "all due", l, api.MaxTasks, 0, 0)
	wantRefused(t, "all due", l, api.LoopStep{Kind: api.LoopAfter}, api.ErrMany)
	for at := range 7 {
		for i := at; i < api.MaxTasks; i += 7 {
			wantNext(t, "all due", l, task(0, i))
		}
	}
	wantNext(t, "all due", l, api.Turn{})
	after(t, l, 0, 0, 1, api.MaxTasks+1)
}
