package loop_test

import (
	"math"
	"slices"
	"testing"

	"canopy/api"
	"canopy/loop"
	"canopy/sample"
)

// waiter is something that waits, as the words have it: at is when a timer is due.
type waiter struct {
	sort   api.LoopKind
	source int
	id     int
	at     int64
	number int
}

// slow is a loop as the words have it: all that waits in one list, in the order in which it came, which is gone over each time.
type slow struct {
	all    []waiter
	now    int64
	given  int
	closed bool
}

func (m *slow) fork() *slow {
	return &slow{slices.Clone(m.all), m.now, m.given, m.closed}
}

// refusal is the first error that the chapter names of a step.
func (m *slow) refusal(s api.LoopStep) api.Errno {
	adds := s.Kind == api.LoopTask || s.Kind == api.LoopMicro || s.Kind == api.LoopAfter
	switch {
	case m.closed && (adds || s.Kind == api.LoopAdvance):
		return api.ErrState
	case s.Kind == api.LoopTask && (s.Source < 0 || s.Source >= api.MaxSources),
		s.Kind == api.LoopAfter && (s.Ms > api.MaxClock || s.Level < 0),
		s.Kind == api.LoopAdvance && (s.Ms < 0 || s.Ms > api.MaxClock-m.now):
		return api.ErrRange
	case adds && len(m.all) == api.MaxTasks:
		return api.ErrMany
	case s.Kind == api.LoopNone || s.Kind >= api.LoopCount:
		return api.ErrType
	}
	return api.OK
}

func (m *slow) do(s api.LoopStep) (int64, api.Turn, api.Errno) {
	if why := m.refusal(s); why != api.OK {
		return 0, api.Turn{}, why
	}
	switch s.Kind {
	case api.LoopTask, api.LoopMicro:
		m.all = append(m.all, waiter{sort: s.Kind, source: s.Source, id: s.Id})
	case api.LoopAfter:
		wait := s.Ms
		if s.Level > 5 && s.Ms < 4 {
			wait = 4
		} else if s.Ms < 0 {
			wait = 0
		}
		m.given++
		m.all = append(m.all, waiter{sort: s.Kind, id: s.Id, at: min(m.now+wait, api.MaxClock), number: m.given})
		return int64(m.given), api.Turn{}, api.OK
	case api.LoopClear:
		return int64(m.away(func(w waiter) bool { return w.sort == api.LoopAfter && w.number == s.Timer })), api.Turn{}, api.OK
	case api.LoopAdvance:
		m.now += s.Ms
		return m.advance(), api.Turn{}, api.OK
	case api.LoopNext:
		return 0, m.next(s.Source), api.OK
	case api.LoopClose:
		was := m.closed
		m.all, m.closed = nil, true
		if !was {
			return 1, api.Turn{}, api.OK
		}
	}
	return 0, api.Turn{}, api.OK
}

// away takes all that fit away: how many.
func (m *slow) away(fits func(waiter) bool) int {
	was := len(m.all)
	m.all = slices.DeleteFunc(m.all, fits)
	return was - len(m.all)
}

// first is the timer that is due first.
func (m *slow) first() (waiter, bool) {
	var first waiter
	found := false
	for _, w := range m.all {
		if w.sort == api.LoopAfter && (!found || w.at < first.at) {
			first, found = w, true
		}
	}
	return first, found
}

func (m *slow) advance() int64 {
	for n := int64(0); ; n++ {
		first, found := m.first()
		if !found || first.at > m.now {
			return n
		}
		m.away(func(w waiter) bool { return w == first })
		m.all = append(m.all, waiter{sort: api.LoopTask, id: first.id})
	}
}

func (m *slow) next(pick int) api.Turn {
	at := slices.IndexFunc(m.all, func(w waiter) bool { return w.sort == api.LoopMicro })
	if at >= 0 {
		turn := micro(m.all[at].id)
		m.all = slices.Delete(m.all, at, at+1)
		return turn
	}
	var sources []int
	for source := range api.MaxSources {
		if slices.ContainsFunc(m.all, func(w waiter) bool { return w.sort == api.LoopTask && w.source == source }) {
			sources = append(sources, source)
		}
	}
	n := len(sources)
	if n == 0 {
		return api.Turn{}
	}
	source := sources[((pick%n)+n)%n]
	at = slices.IndexFunc(m.all, func(w waiter) bool { return w.sort == api.LoopTask && w.source == source })
	turn := task(source, m.all[at].id)
	m.all = slices.Delete(m.all, at, at+1)
	return turn
}

// wantAs holds what a loop tells of itself against the model.
func wantAs(t *testing.T, seed int, l *loop.Loop, m *slow) {
	t.Helper()
	count := map[api.LoopKind]int{}
	for _, w := range m.all {
		count[w.sort]++
	}
	wantWaiting(t, "by dice", l, count[api.LoopTask], count[api.LoopMicro], count[api.LoopAfter])
	first, found := m.first()
	wantDue(t, "by dice", l, first.at, found)
	if l.Now() != m.now || l.Given() != int64(m.given) {
		t.Fatalf("seed %d: now %d, given %d; want %d, %d", seed, l.Now(), l.Given(), m.now, m.given)
	}
}

// aStep is picked by dice: now and then one that is refused. Ids are told apart by n.
func aStep(d *sample.Dice, n int) api.LoopStep {
	pick := func(l ...int) int { return l[d.Below(len(l))] }
	s := api.LoopStep{Kind: api.LoopKind(d.Below(int(api.LoopNext))) + 1, Id: n, Source: d.Below(api.MaxSources), Ms: int64(d.Below(6)), Level: d.Below(8)}
	if s.Kind == api.LoopNext || s.Kind == api.LoopMicro {
		s.Source = pick(0, 1, 2, -1, -5, 100, math.MinInt, math.MaxInt)
	}
	s.Timer = d.Below(n + 2)
	switch d.Below(40) {
	case 0:
		s.Source, s.Level = pick(-1, api.MaxSources), -1
	case 1:
		s.Ms = int64(pick(-1, math.MinInt, api.MaxClock, api.MaxClock+1, math.MaxInt))
	case 2:
		s.Kind = api.LoopKind(pick(0, int(api.LoopCount), 255))
	case 3:
		if d.Below(4) == 0 {
			s.Kind = api.LoopClose
		}
	}
	return s
}

// wantSame has both do a step.
func wantSame(t *testing.T, seed int, l *loop.Loop, m *slow, s api.LoopStep) {
	t.Helper()
	number, turn, why := l.Do(s)
	wantNumber, wantTurn, wantWhy := m.do(s)
	if number != wantNumber || turn != wantTurn || why != wantWhy {
		t.Fatalf("seed %d: %+v: %d, %v, error %d; want %d, %v, %d", seed, s, number, turn, why, wantNumber, wantTurn, wantWhy)
	}
	wantAs(t, seed, l, m)
}

// 27.1 to 27.7, and with that 27.8 to 27.10: steps picked by dice, against the words; 27.12: forks go on as the loop would, and change nothing of it.
func TestByDice(t *testing.T) {
	closed := 0
	for seed := range 300 {
		d := sample.NewDice(seed)
		l, m := loop.New(), &slow{}
		for n := range 60 {
			wantSame(t, seed, l, m, aStep(d, n))
			if d.Below(10) == 0 {
				f, g := l.Fork(), m.fork()
				for k := range 20 {
					wantSame(t, seed, f, g, aStep(d, n+k))
					wantAs(t, seed, l, m)
				}
			}
		}
		if m.closed {
			closed++
		}
	}
	if closed == 0 || closed == 300 {
		t.Error("closed:", closed)
	}
}

// 27.12: a fork and its loop, told the same, answer the same.
func TestForkGoesOn(t *testing.T) {
	for seed := range 100 {
		d := sample.NewDice(seed)
		l := loop.New()
		for n := range 30 {
			l.Do(aStep(d, n))
		}
		f := l.Fork()
		for n := range 30 {
			s := aStep(d, 30+n)
			a, b, c := f.Do(s)
			if x, y, z := l.Do(s); a != x || b != y || c != z {
				t.Fatalf("seed %d: %+v: the fork answers %d, %v, %d; the loop %d, %v, %d", seed, s, a, b, c, x, y, z)
			}
		}
		if stand(f) != stand(l) {
			t.Errorf("seed %d: the fork stands as %s, the loop as %s", seed, stand(f), stand(l))
		}
	}
}

// 27.8 to 27.11: no task while a microtask waits; in order; a timer just if it was not cleared and its time has come; nothing is lost.
func TestFollows(t *testing.T) {
	for seed := range 200 {
		d := sample.NewDice(seed)
		l := loop.New()
		came, gone, due := map[int]api.LoopStep{}, map[int]string{}, map[int]int64{}
		numbers := map[int]int{}
		last := map[[2]int]int{}
		for n := range 80 {
			s := aStep(d, n)
			if s.Kind == api.LoopClose {
				continue
			}
			now := l.Now()
			_, micros, _ := l.Waiting()
			number, turn, why := l.Do(s)
			if why != api.OK {
				continue
			}
			switch s.Kind {
			case api.LoopAfter:
				numbers[int(number)] = n
				came[n], due[n] = s, now+max(s.Ms, 0)
			case api.LoopTask, api.LoopMicro:
				came[n] = s
			case api.LoopClear:
				if number == 1 {
					gone[numbers[s.Timer]] = "cleared"
				}
			}
			if turn.Kind == api.TurnNone {
				continue
			}
			if turn.Kind == api.TurnTask && micros > 0 {
				t.Errorf("seed %d: a task while %d microtasks wait", seed, micros)
			}
			if gone[turn.Id] != "" {
				t.Errorf("seed %d: %d is %s already", seed, turn.Id, gone[turn.Id])
			}
			gone[turn.Id] = "answered"
			if at, timer := due[turn.Id]; timer && (at > l.Now() || turn.Source != 0) {
				t.Errorf("seed %d: the timer of %d is answered at %d", seed, at, l.Now())
			} else if key := [2]int{int(turn.Kind), turn.Source}; !timer {
				if turn.Id < last[key] {
					t.Errorf("seed %d: %d behind %d", seed, turn.Id, last[key])
				}
				last[key] = turn.Id
			}
		}
		tasks, micros, timers := l.Waiting()
		if len(came) != len(gone)+tasks+micros+timers {
			t.Errorf("seed %d: %d came, %d went, %d wait", seed, len(came), len(gone), tasks+micros+timers)
		}
	}
}

// 27.9: what came first is answered first, however much comes and goes between.
func TestInOrderForLong(t *testing.T) {
	l := loop.New()
	in, out := 0, 0
	for round := range 3000 {
		for range 1 + round%5 {
			if l.Task(2, in) == api.OK {
				in++
			}
		}
		for range 1 + round%6 {
			if turn := l.Next(round); turn.Kind != api.TurnNone {
				if turn != task(2, out) {
					t.Fatalf("round %d: %v; want %d", round, turn, out)
				}
				out++
			}
		}
		wantWaiting(t, "for long", l, in-out, 0, 0)
	}
}
