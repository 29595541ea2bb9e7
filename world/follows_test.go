package world_test

import (
	"slices"
	"testing"

	"canopy/abort"
	"canopy/api"
	"canopy/attrs"
	"canopy/bounds"
	"canopy/chardata"
	"canopy/custom"
	"canopy/forest"
	"canopy/iterate"
	"canopy/listen"
	"canopy/mutate"
	"canopy/observe"
	"canopy/sample"
	"canopy/shadow"
	"canopy/world"
)

// each hands on scripts that are picked by dice.
func each(seeds int, try func(seed int, d *sample.Dice, s api.Script)) {
	for seed := range seeds {
		d := sample.NewDice(seed)
		try(seed, d, sample.Play(d))
	}
}

// tally counts what comes up in traces: each op that was done, and that was refused, and each reason.
type tally struct {
	done, refused map[api.Op]int
	because       map[api.Because]int
	kinds         map[api.MarkKind]int
}

func newTally() tally {
	return tally{map[api.Op]int{}, map[api.Op]int{}, map[api.Because]int{}, map[api.MarkKind]int{}}
}

func (y tally) count(l []api.Mark) {
	for _, m := range l {
		y.kinds[m.Kind]++
		switch {
		case m.Kind == api.MarkEnter:
			y.because[m.Because]++
		case m.Kind == api.MarkDone && m.Why == api.OK:
			y.done[m.Op]++
		case m.Kind == api.MarkDone:
			y.refused[m.Op]++
		}
	}
}

// few tells what came up too rarely; some ops are never refused.
func (y tally) few(t *testing.T, least int) {
	t.Helper()
	for op := api.OpElement; op < api.OpCount; op++ {
		never := op == api.OpText || op == api.OpComment || op == api.OpFragment || op == api.OpUnlisten || op == api.OpSignal || op == api.OpClear
		if y.done[op] < least || y.refused[op] < least && !never {
			t.Error("too few of an op:", op, y.done[op], y.refused[op])
		}
	}
	for b := api.BecauseEvent; b < api.BecauseCount; b++ {
		if y.because[b] < least {
			t.Error("too few of a reason:", b, y.because[b])
		}
	}
	for k := api.MarkDone; k < api.MarkCount; k++ {
		if y.kinds[k] < least {
			t.Error("too few of a kind:", k, y.kinds[k])
		}
	}
}

// The words, 29.2, 29.3, P5: what scripts tell, and what there is behind them, is what the words say, and the same once more.
func TestAsModel(t *testing.T) {
	y := newTally()
	each(4000, func(seed int, _ *sample.Dice, s api.Script) {
		marks, state, why := world.Run(s)
		fine(t, why)
		m := modelRun(s)
		for i := range min(len(marks), len(m.marks)) {
			if marks[i] != m.marks[i] {
				t.Fatalf("seed %d, behind %s: %+v; want %+v", seed, spelled(marks[:i]), marks[i], m.marks[i])
			}
		}
		if len(marks) != len(m.marks) || !sample.SameState(state, m.s) {
			t.Fatalf("seed %d: %s; want %s\n%+v\n%+v", seed, spelled(marks), spelled(m.marks), state, m.s)
		}
		y.count(marks)
		if seed%10 == 0 {
			again, then, _ := world.Run(s)
			if !slices.Equal(marks, again) || !sample.SameState(state, then) {
				t.Fatalf("seed %d: another trace once more", seed)
			}
		}
	})
	y.few(t, 15)
}

// wantRight sees that all that there is is right, each in the forest.
func wantRight(t *testing.T, seed int, s api.State) {
	t.Helper()
	f := s.Forest
	why, at := forest.Check(f)
	for _, x := range []struct {
		what string
		why  api.Errno
	}{
		{"the forest", why}, {"what is given by hand", shadow.Check(f, s.Hand)}, {"the watch", observe.Check(f, s.Watch)},
		{"the listeners", listen.Check(s.Listeners)}, {"the signals", abort.Check(s.Signals)}, {"the registry", custom.Check(s.Registry)},
	} {
		if x.why != api.OK {
			t.Fatalf("seed %d: %s: error %d, %d", seed, x.what, x.why, at)
		}
	}
	for _, r := range s.Ranges {
		if is, why := bounds.Valid(f, r); !is || why != api.OK {
			t.Fatalf("seed %d: the range %v: error %d", seed, r, why)
		}
	}
	for _, it := range s.Iterators {
		if why := iterate.Check(f, it); why != api.OK {
			t.Fatalf("seed %d: the iterator %v: error %d", seed, it, why)
		}
	}
	if len(s.Programs) != len(s.Watch.Queues) {
		t.Fatalf("seed %d: %d programs of observers", seed, len(s.Programs))
	}
	for _, l := range s.Listeners.List {
		if l.Node > len(f.Nodes) || l.Signal > len(s.Signals) {
			t.Fatalf("seed %d: the listener %v", seed, l)
		}
	}
	for _, e := range s.Registry.Elements {
		if e.Node > len(f.Nodes) || f.Nodes[e.Node-1].Kind != api.KindElement {
			t.Fatalf("seed %d: the element %v", seed, e)
		}
	}
}

// 29.5 to 29.7, P6 to P8: behind each command all is right, and nothing waits, if there is fuel; there are no more marks than there may be.
func TestRightAndIdle(t *testing.T) {
	idle, exhausted := 0, 0
	each(500, func(seed int, _ *sample.Dice, s api.Script) {
		w := worldOf(t, s)
		for _, c := range s.Commands {
			was := w.State()
			l, why := w.Do(c)
			state := w.State()
			wantRight(t, seed, state)
			switch {
			case was.Exhausted:
				if why != api.ErrState || l != nil {
					t.Fatalf("seed %d: Do of what is exhausted: %s, error %d", seed, spelled(l), why)
				}
				exhausted++
			case !state.Exhausted:
				if !w.Idle() {
					t.Fatalf("seed %d: not idle behind %s", seed, spelled(l))
				}
				idle++
			}
			for _, q := range state.Watch.Queues {
				if len(q) > 0 && !state.Exhausted {
					t.Fatalf("seed %d: records behind %s", seed, spelled(l))
				}
			}
			burnt := was.Fuel - state.Fuel
			if len(l) > 2*burnt+1 || len(state.Forest.Nodes) < len(was.Forest.Nodes) {
				t.Fatalf("seed %d: %d marks by %d", seed, len(l), burnt)
			}
		}
		state, marks := w.State(), w.Marks()
		if len(marks) > 2*s.Fuel+1 || state.Exhausted && (state.Fuel != 0 || spelledMark(marks[len(marks)-1]) != ".") {
			t.Fatalf("seed %d: %d marks, fuel %d", seed, len(marks), state.Fuel)
		}
	})
	if idle < 2000 || exhausted < 500 {
		t.Error("too few:", idle, exhausted)
	}
}

// 29.10: a fork, of any world, goes on as the world would, and changes nothing of it; a fork of a fork as well; Run tells what Do does.
func TestForks(t *testing.T) {
	alive, over := 0, 0
	each(300, func(seed int, d *sample.Dice, s api.Script) {
		whole, state, why := world.Run(s)
		fine(t, why)
		at := d.Below(len(s.Commands) + 1)
		w := worldOf(t, s)
		for _, c := range s.Commands[:at] {
			w.Do(c)
		}
		was, marks := w.State(), w.Marks()
		if was.Exhausted {
			over++
		} else {
			alive++
		}
		astray := w.Fork()
		for range 10 {
			astray.Do(sample.Play(d).Commands[0])
			astray.Do(sample.Command(d, 1+api.Op(d.Below(int(api.OpCount)-1))))
		}
		f := w.Fork().Fork()
		if !sample.SameState(w.State(), was) || !slices.Equal(w.Marks(), marks) || !sample.SameState(f.State(), was) || !slices.Equal(f.Marks(), marks) || f.Idle() != w.Idle() {
			t.Fatalf("seed %d: a fork does not stand as the world, or changes it", seed)
		}
		for _, x := range []*world.World{f, w} {
			if x == w && (!sample.SameState(w.State(), was) || !slices.Equal(w.Marks(), marks)) {
				t.Fatalf("seed %d: a fork changes the world", seed)
			}
			for _, c := range s.Commands[at:] {
				x.Do(c)
			}
			if !slices.Equal(x.Marks(), whole) || !sample.SameState(x.State(), state) {
				t.Fatalf("seed %d: %s; want %s", seed, spelled(x.Marks()), spelled(whole))
			}
		}
	})
	if alive < 100 || over < 30 {
		t.Error("too few:", alive, over)
	}
}

// 29.11: marks of programs nest, but where too many are within one another, or the fuel ends.
func TestNested(t *testing.T) {
	deepest := 0
	check := func(seed int, s api.Script) {
		marks, _, why := world.Run(s)
		fine(t, why)
		var open []int
		for i, m := range marks {
			switch m.Kind {
			case api.MarkEnter:
				open = append(open, m.Program)
				deepest = max(deepest, len(open))
			case api.MarkLeave:
				if m.Why == api.ErrMany && len(open) == api.MaxNest {
					continue // it was not entered; or it was, and the last of its commands was refused so
				}
				if len(open) == 0 || open[len(open)-1] != m.Program {
					t.Fatalf("seed %d: mark %d: %+v, while there are %v", seed, i, m, open)
				}
				last := marks[i-1]
				if refused := last.Kind == api.MarkDone && last.Why != api.OK; refused != (m.Why != api.OK) || refused && last.Why != m.Why {
					t.Fatalf("seed %d: mark %d: %+v behind %+v", seed, i, m, last)
				}
				open = open[:len(open)-1]
			}
			if len(open) > api.MaxNest {
				t.Fatalf("seed %d: %d within one another", seed, len(open))
			}
		}
		if over := len(marks) > 0 && marks[len(marks)-1].Kind == api.MarkExhausted; len(open) > 0 && !over {
			t.Fatalf("seed %d: %v did not end", seed, open)
		}
	}
	each(1000, func(seed int, _ *sample.Dice, s api.Script) { check(seed, s) })
	check(-1, written(t, 400, `listen 1 "x" 1 0 0; listen 1 "x" 2 0 0; micro 1; micro 1`, `dispatch 1 "x" 0`, "signal"))
	if deepest != api.MaxNest {
		t.Error("not as deep as may be:", deepest)
	}
}

// exchanged has two programs exchanged, and all numbers that name them.
func exchanged(s api.Script, p, q int) api.Script {
	s = sample.CopyScript(s)
	other := func(n int) int { return otherOf(n, p, q) }
	s.Programs[p-1], s.Programs[q-1] = s.Programs[q-1], s.Programs[p-1]
	for _, l := range append([][]api.Command{s.Commands}, s.Programs...) {
		for i := range l {
			c := &l[i]
			switch c.Op {
			case api.OpObserver, api.OpListen, api.OpUnlisten:
				c.N = other(c.N)
			case api.OpTask, api.OpMicro, api.OpTimer:
				c.M = other(c.M)
			case api.OpDefine:
				for j, n := range c.List {
					c.List[j] = other(n)
				}
			}
		}
	}
	return s
}

func otherOf(n, p, q int) int {
	switch n {
	case p:
		return q
	case q:
		return p
	}
	return n
}

// 29.9, P12: with two programs, and all numbers that name them, exchanged, the marks are the same with these exchanged; and so is what there is.
func TestRenamed(t *testing.T) {
	named := 0
	each(800, func(seed int, d *sample.Dice, s api.Script) {
		p, q := 1+d.Below(len(s.Programs)), 1+d.Below(len(s.Programs))
		marks, state, why := world.Run(s)
		fine(t, why)
		l, then, why := world.Run(exchanged(s, p, q))
		fine(t, why)
		for i := range marks {
			if marks[i].Program != 0 {
				named++
			}
			marks[i].Program = otherOf(marks[i].Program, p, q)
		}
		for i := range state.Programs {
			state.Programs[i] = otherOf(state.Programs[i], p, q)
		}
		for i := range state.Listeners.List {
			state.Listeners.List[i].Callback = otherOf(state.Listeners.List[i].Callback, p, q)
		}
		for i := range state.Registry.Definitions {
			d := &state.Registry.Definitions[i]
			for _, n := range []*int{&d.Constructor, &d.Connected, &d.Disconnected, &d.Adopted, &d.Changed} {
				*n = otherOf(*n, p, q)
			}
		}
		if !slices.Equal(l, marks) || !sample.SameState(then, state) {
			t.Fatalf("seed %d, %d and %d: %s; want %s", seed, p, q, spelled(l), spelled(marks))
		}
	})
	if named < 2000 {
		t.Error("too few:", named)
	}
}

// turns are commands that turn trees, picked by dice, none of which is refused behind others in a world.
func turns(t *testing.T, d *sample.Dice, w *world.World, n int) []api.Command {
	t.Helper()
	trial := w.Fork()
	var l []api.Command
	for range 40 * n {
		c := api.Command{Op: api.OpElement + api.Op(d.Below(int(api.OpIterate-api.OpElement))), S: "b", Data: sample.Data(d), Yes: d.Below(2) == 0}
		c.A, c.B, c.C = 1+d.Below(14), 1+d.Below(14), max(0, d.Below(20)-6)
		if c.Op == api.OpRange {
			c.A, c.B, c.M = 2, 2, 1+d.Below(2)
		}
		marks, why := trial.Do(c)
		fine(t, why)
		if marks[len(marks)-1].Why == api.OK {
			l = append(l, c)
		}
		if len(l) == n {
			break
		}
	}
	return l
}

// P9: who follows nothing but what observers are told of a node's kids knows them. Within a program nothing is handed over, so that all records are there when the fuel ends.
func TestTold(t *testing.T) {
	const watched = 9
	main := `element "div" ""; insert 2 1 0; element "p" ""; insert 3 2 0; text "abc"; insert 4 3 0; attach 2 1 no; element "slot" ""; insert 6 5 0; element "b" ""; text "de"; insert 8 7 0; fragment; range 2 0 2 1; range 4 1 4 2; `
	records := map[bool]int{}
	for seed := range 150 {
		program := turns(t, sample.NewDice(seed), begun(t, main), 40)
		s := written(t, 0, main, "")
		for h := 1; h <= watched; h++ {
			s.Commands = append(s.Commands, api.Command{Op: api.OpObserver, N: 1}, api.Command{Op: api.OpObserve, A: h, B: h, N: 1})
		}
		s.Fuel = len(s.Commands)
		_, was, why := world.Run(s)
		fine(t, why)
		s.Commands = append(s.Commands, api.Command{Op: api.OpMicro, M: 2})
		s.Programs = append(s.Programs, append(program, api.Command{Op: api.OpSignal}))
		s.Fuel = len(s.Commands) + 1 + len(program)
		marks, state, why := world.Run(s)
		fine(t, why)
		if !state.Exhausted || len(outside(marks)) != len(s.Commands) {
			t.Fatalf("seed %d: %s", seed, spelled(marks))
		}
		for h := 1; h <= watched; h++ {
			kids := was.Forest.Nodes[h-1].Kids
			for _, r := range state.Watch.Queues[h-1] {
				kids = applied(kids, r)
				records[len(r.Added) > 0 && len(r.Removed) > 0]++
			}
			if is := state.Forest.Nodes[h-1].Kids; !slices.Equal(kids, is) {
				t.Fatalf("seed %d, node %d: %v by what is told; there are %v", seed, h, kids, is)
			}
		}
	}
	if records[false] < 300 || records[true] < 100 {
		t.Error("too few:", records)
	}
}

// P10: changes, but those that make nodes, can be taken back one by one, in the forests of worlds.
func TestTakenBack(t *testing.T) {
	back := map[api.ChangeKind]int{}
	each(150, func(seed int, d *sample.Dice, s api.Script) {
		_, state, why := world.Run(s)
		fine(t, why)
		f := state.Forest
		for range 20 {
			a, b, c := 1+d.Below(len(f.Nodes)), 1+d.Below(len(f.Nodes)), d.Below(len(f.Nodes)+1)
			for _, call := range []func() (api.Forest, []api.Change, api.Errno){
				func() (api.Forest, []api.Change, api.Errno) { return mutate.Insert(f, a, b, c) },
				func() (api.Forest, []api.Change, api.Errno) { return mutate.Remove(f, f.Nodes[a-1].Parent, a) },
				func() (api.Forest, []api.Change, api.Errno) { return mutate.SetContent(f, a, nil) },
				func() (api.Forest, []api.Change, api.Errno) { return mutate.Normalize(f, a) },
				func() (api.Forest, []api.Change, api.Errno) { return attrs.Set(f, a, "id", "z") },
				func() (api.Forest, []api.Change, api.Errno) { return chardata.Set(f, a, sample.Data(d)) },
			} {
				if _, l, why := call(); why == api.OK {
					wantTakenBack(t, seed, f, l, back)
				}
			}
		}
	})
	for _, k := range []api.ChangeKind{api.ChangeInsert, api.ChangeRemove, api.ChangeAdopt, api.ChangeData, api.ChangeAttr, api.ChangeTree} {
		if back[k] < 20 {
			t.Error("too few of a kind:", back)
		}
	}
}

// wantTakenBack does changes, and takes them back, the last one first.
func wantTakenBack(t *testing.T, seed int, f api.Forest, l []api.Change, count map[api.ChangeKind]int) {
	t.Helper()
	var undo []api.Change
	g := f
	for _, c := range l {
		u, why := forest.Undo(g, c)
		fine(t, why)
		undo = append(undo, u)
		g, why = forest.Apply(g, c)
		fine(t, why)
		count[c.Kind]++
	}
	for i := len(undo) - 1; i >= 0; i-- {
		var why api.Errno
		g, why = forest.Apply(g, undo[i])
		fine(t, why)
	}
	if !forest.Same(f, g) {
		t.Fatalf("seed %d: %v is not taken back", seed, l)
	}
}

// applied are kids behind what a record tells of them.
func applied(kids []int, r api.Record) []int {
	left := slices.DeleteFunc(slices.Clone(kids), func(h int) bool { return slices.Contains(r.Removed, h) })
	at := len(left)
	if i := slices.Index(left, r.Next); i >= 0 {
		at = i
	}
	if i := slices.Index(left, r.Prev); i >= 0 {
		at = i + 1
	} else if r.Prev == 0 {
		at = 0
	}
	return slices.Insert(left, at, r.Added...)
}
