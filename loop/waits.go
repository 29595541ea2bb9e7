package loop

import (
	"slices"

	"canopy/api"
)

// timerSource is the source whose tasks timers become.
const timerSource = 0

// From a level above deepLevel on a timer waits shortestDeep at least.
const (
	deepLevel    = 5
	shortestDeep = 4
)

// queue is what waits, in the order in which it is taken.
type queue[T any] struct{ items []T }

func (q *queue[T]) length() int { return len(q.items) }

func (q *queue[T]) put(v T) { q.items = append(q.items, v) }

func (q *queue[T]) insert(at int, v T) { q.items = slices.Insert(q.items, at, v) }

// take is the first one, which must be there.
func (q *queue[T]) take() T {
	first := q.items[0]
	q.items = q.items[1:]
	return first
}

// drop has the first one that fits wait no more: whether there was one.
func (q *queue[T]) drop(fits func(T) bool) bool {
	at := slices.IndexFunc(q.items, fits)
	if at < 0 {
		return false
	}
	q.items = slices.Delete(q.items, at, at+1)
	return true
}

func (q *queue[T]) copied() queue[T] { return queue[T]{slices.Clone(q.items)} }

// alarm is a timer that waits: the time at which it is due, its number, its asker's id.
type alarm struct {
	at         int64
	number, id int
}

// wait is how long a timer waits.
func wait(ms int64, level int) int64 {
	if level > deepLevel && ms < shortestDeep {
		return shortestDeep
	}
	return max(ms, 0)
}

// dueBy is how many timers are due at a time or ahead: one more of that time comes behind these.
func dueBy(timers queue[alarm], at int64) int {
	n, _ := slices.BinarySearchFunc(timers.items, at, func(t alarm, at int64) int {
		if t.at <= at {
			return -1
		}
		return 1
	})
	return n
}

// against is why nothing more may wait; wrong: what is asked for is out of its range.
func (l *Loop) against(wrong bool) api.Errno {
	switch {
	case l == nil:
		return api.ErrNil
	case l.closed:
		return api.ErrState
	case wrong:
		return api.ErrRange
	case l.full():
		return api.ErrMany
	}
	return api.OK
}

func (l *Loop) full() bool {
	tasks, micros, timers := l.Waiting()
	return tasks+micros+timers >= api.MaxTasks
}

// sources are those at which tasks wait, rising.
func (l *Loop) sources() []int {
	var some []int
	for source := range l.tasks {
		if l.tasks[source].length() > 0 {
			some = append(some, source)
		}
	}
	return some
}

// place is where a pick falls among n: picks below 0 count on downwards, where % would mirror them.
func place(pick, n int) int {
	at := pick % n
	if at < 0 {
		at += n
	}
	return at
}
