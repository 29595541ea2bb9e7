package world_test

import (
	"slices"

	"canopy/abort"
	"canopy/api"
	"canopy/attrs"
	"canopy/bounds"
	"canopy/chardata"
	"canopy/clone"
	"canopy/custom"
	"canopy/dispatch"
	"canopy/extract"
	"canopy/factory"
	"canopy/find"
	"canopy/forest"
	"canopy/iterate"
	"canopy/listen"
	"canopy/loop"
	"canopy/mutate"
	"canopy/observe"
	"canopy/order"
	"canopy/path"
	"canopy/ranges"
	"canopy/react"
	"canopy/shadow"
	"canopy/tokens"
)

// model does commands as the words say, one word behind the other: what has no fuel ends by a panic, whatever is under way; what is refused ends by another one, behind which all is what it was.
type model struct {
	s        api.State
	programs [][]api.Command
	reacts   api.Reacts
	told     []int
	waits    bool
	loop     *loop.Loop
	runs     []api.Run
	nest     int
	marks    []api.Mark
}

type noFuel struct{}

type refusal struct{ why api.Errno }

func modelOf(s api.Script) *model {
	m := &model{programs: s.Programs, loop: loop.New()}
	m.s.Forest, m.s.Fuel = forest.New(true), s.Fuel
	return m
}

// modelRun is what Run answers of a script that is let in.
func modelRun(s api.Script) *model {
	m := modelOf(s)
	for _, c := range s.Commands {
		if !m.s.Exhausted {
			m.top(c)
		}
	}
	return m
}

func (m *model) top(c api.Command) {
	defer func() {
		if r := recover(); r != nil {
			_ = r.(noFuel)
		}
	}()
	m.command(c)
	m.microtasks()
}

func (m *model) mark(x api.Mark) { m.marks = append(m.marks, x) }

func (m *model) burn() {
	if m.s.Fuel == 0 {
		m.s.Exhausted = true
		m.mark(api.Mark{Kind: api.MarkExhausted})
		panic(noFuel{})
	}
	m.s.Fuel--
}

func must(why api.Errno) {
	if why != api.OK {
		panic(refusal{why})
	}
}

func (m *model) call(program int, because api.Because, node, value int) api.Errno {
	if program == 0 {
		return api.OK
	}
	m.burn()
	if m.nest == 32 {
		m.mark(api.Mark{Kind: api.MarkLeave, Program: program, Why: api.ErrMany})
		return api.ErrMany
	}
	m.mark(api.Mark{Kind: api.MarkEnter, Program: program, Because: because, Node: node, Value: value})
	m.nest++
	why := api.OK
	for _, c := range m.programs[program-1] {
		if why == api.OK {
			why = m.command(c)
		}
	}
	m.nest--
	m.mark(api.Mark{Kind: api.MarkLeave, Program: program, Why: why})
	return why
}

func (m *model) command(c api.Command) api.Errno {
	m.burn()
	var why api.Errno
	m.reacts, why = react.Push(m.reacts)
	must(why)
	value, text, why := m.attempt(c)
	var l []int
	var is bool
	var r api.Reaction
	var wrong api.Errno
	m.reacts, l, wrong = react.Pop(m.reacts)
	must(wrong)
	for {
		m.reacts, l, r, is, wrong = react.Take(m.reacts, l)
		must(wrong)
		if !is {
			break
		}
		m.reaction(r)
	}
	for len(m.reacts.Stack) == 0 {
		m.reacts, r, is, wrong = react.Backup(m.reacts)
		must(wrong)
		if !is {
			break
		}
		m.reaction(r)
	}
	m.mark(api.Mark{Kind: api.MarkDone, Op: c.Op, Why: why, Value: value, Text: text})
	return why
}

// attempt has all that there was back, where the command is refused.
func (m *model) attempt(c api.Command) (value int, text string, why api.Errno) {
	was := *m
	defer func() {
		switch r := recover().(type) {
		case nil:
		case refusal:
			*m = was
			value, text, why = 0, "", r.why
		default:
			panic(r)
		}
	}()
	value, text = m.op(c)
	return value, text, api.OK
}

func (m *model) reaction(r api.Reaction) {
	switch r.Kind {
	case api.ReactConnected:
		m.call(r.Callback, api.BecauseConnected, r.Element, 0)
	case api.ReactDisconnected:
		m.call(r.Callback, api.BecauseDisconnected, r.Element, 0)
	case api.ReactAdopted:
		m.call(r.Callback, api.BecauseAdopted, r.Element, r.To)
	case api.ReactChanged:
		m.call(r.Callback, api.BecauseChanged, r.Element, 0)
	case api.ReactUpgrade:
		m.upgrade(r)
	}
}

func (m *model) upgrade(r api.Reaction) {
	e, why := custom.Of(m.s.Registry, r.Element)
	must(why)
	if e.State == api.StateFailed || e.State == api.StateCustom {
		return
	}
	m.s.Registry, why = custom.Set(m.s.Registry, r.Element, api.StateFailed, r.Definition)
	must(why)
	if s, _, why := react.Started(m.s.Forest, m.reacts, m.s.Registry, r.Element); why == api.OK {
		m.reacts = s
	}
	d, _, why := custom.Get(m.s.Registry, r.Definition)
	must(why)
	if m.call(d.Constructor, api.BecauseConstruct, r.Element, 0) != api.OK {
		m.reacts.Queues = slices.DeleteFunc(slices.Clone(m.reacts.Queues), func(q api.ReactQueue) bool { return q.Element == r.Element })
		return
	}
	m.s.Registry, why = custom.Set(m.s.Registry, r.Element, api.StateCustom, r.Definition)
	must(why)
}

func (m *model) microtasks() {
	for {
		if _, n, _ := m.loop.Waiting(); n == 0 {
			return
		}
		if id := m.loop.Next(0).Id; id != 0 {
			m.call(id, api.BecauseMicro, 0, 0)
			continue
		}
		told := m.told
		m.waits, m.told = false, nil
		w, notices, why := observe.Notify(m.s.Watch)
		must(why)
		m.s.Watch = w
		for _, n := range notices {
			m.call(m.s.Programs[n.Observer-1], api.BecauseRecords, n.Observer, len(n.Records))
		}
		for _, slot := range told {
			m.dispatch("slotchange", slot, 1)
		}
	}
}

func (m *model) dispatch(kind string, h, bits int) int {
	l, why := path.Path(m.s.Forest, m.s.Hand, h, 0, bits&4 != 0)
	must(why)
	clears, why := path.Clears(m.s.Forest, l)
	must(why)
	r, why := dispatch.Begin(l, api.Event{Type: kind, Bubbles: bits&1 != 0, Cancelable: bits&2 != 0, Composed: bits&4 != 0, Target: h}, clears)
	must(why)
	if len(m.runs) == 32 {
		must(api.ErrMany)
	}
	m.runs = append(m.runs, r)
	for {
		r, left, c, is, why := dispatch.Next(m.s.Listeners, m.runs[len(m.runs)-1])
		must(why)
		m.s.Listeners, m.runs[len(m.runs)-1] = left, r
		if !is {
			break
		}
		m.call(c.Callback, api.BecauseEvent, r.Event.Current, int(r.Event.Phase))
	}
	_, fine, why := dispatch.End(m.runs[len(m.runs)-1])
	must(why)
	m.runs = m.runs[:len(m.runs)-1]
	return asNumber(fine)
}

func asNumber(is bool) int {
	if is {
		return 1
	}
	return 0
}

// changes are done, by all that the words name, whether there is anything that lives or not.
func (m *model) changes(g api.Forest, l []api.Change, is string, why api.Errno) {
	must(why)
	f := m.s.Forest
	m.s.Iterators, why = iterate.Fold(f, m.s.Iterators, l)
	must(why)
	m.s.Ranges, why = ranges.Fold(f, m.s.Ranges, l)
	must(why)
	m.s.Watch, why = observe.Fold(f, m.s.Watch, l)
	must(why)
	slots, why := shadow.Signals(f, m.s.Hand, l)
	must(why)
	m.reacts, _, why = react.Fold(f, m.reacts, m.s.Registry, l)
	must(why)
	m.s.Forest = g
	for _, c := range l {
		if c.Kind == api.ChangeMake && c.Made.Kind == api.KindElement {
			m.s.Registry, why = custom.Begin(g, m.s.Registry, c.Node, is)
			must(why)
			m.reacts, _, why = react.Try(g, m.reacts, m.s.Registry, c.Node)
			must(why)
		}
	}
	m.tell(slots)
}

// tell has slots be told, and the microtask of observers wait, if there is something to tell.
func (m *model) tell(slots []int) {
	for _, slot := range slots {
		if !slices.Contains(m.told, slot) {
			m.told = append(slices.Clone(m.told), slot)
		}
	}
	records := 0
	for _, q := range m.s.Watch.Queues {
		records += len(q)
	}
	if (records > 0 || len(m.told) > 0) && !m.waits {
		m.waits = true
		must(m.loop.Micro(0))
	}
}

func (m *model) program(numbers ...int) {
	for _, n := range numbers {
		if n < 1 || n > len(m.programs) {
			must(api.ErrRange)
		}
	}
}

func offsets(numbers ...int) {
	for _, n := range numbers {
		if n < 0 || n >= 1<<32 {
			must(api.ErrRange)
		}
	}
}

// bits are those of a number, which has none below 0.
func bits(n int) int { return max(n, 0) }

func (m *model) op(c api.Command) (int, string) {
	switch {
	case c.Op < api.OpInsert:
		return m.opMake(c), ""
	case c.Op < api.OpRange:
		return m.opTurn(c), ""
	case c.Op < api.OpListen:
		return m.opLive(c), ""
	case c.Op < api.OpDefine:
		return m.opEvent(c), ""
	case c.Op < api.OpAsk:
		return m.opLater(c), ""
	}
	return m.opAsk(c)
}

func (m *model) opMake(c api.Command) int {
	f, is := m.s.Forest, ""
	var g api.Forest
	var l []api.Change
	var h int
	why := api.ErrType
	switch c.Op {
	case api.OpElement:
		is = c.T
		g, l, h, why = factory.Element(f, 1, c.S)
	case api.OpText:
		g, l, h, why = factory.Text(f, 1, c.Data)
	case api.OpComment:
		g, l, h, why = factory.Comment(f, 1, c.Data)
	case api.OpFragment:
		g, l, h, why = factory.Fragment(f, 1)
	case api.OpClone:
		g, l, h, why = clone.Clone(f, c.A, c.Yes)
	case api.OpAttach:
		mode := map[int]api.ShadowMode{1: api.ShadowOpen, 2: api.ShadowClosed}[c.N]
		g, l, h, why = shadow.Attach(f, c.A, mode, c.Yes)
	}
	m.changes(g, l, is, why)
	return h
}

func (m *model) opTurn(c api.Command) (value int) {
	f := m.s.Forest
	var g api.Forest
	var l []api.Change
	var is bool
	var why api.Errno
	switch c.Op {
	case api.OpInsert:
		g, l, why = mutate.Insert(f, c.A, c.B, c.C)
	case api.OpReplace:
		g, l, why = mutate.Replace(f, c.A, c.B, c.C)
	case api.OpRemove:
		g, l, why = mutate.Remove(f, c.B, c.A)
	case api.OpNormalize:
		g, l, why = mutate.Normalize(f, c.A)
	case api.OpContent:
		g, l, why = mutate.SetContent(f, c.A, c.Data)
	case api.OpAssign:
		m.opAssign(c)
		return 0
	case api.OpData:
		offsets(c.N, c.M)
		g, l, why = chardata.Replace(f, c.A, uint32(c.N), uint32(c.M), c.Data)
	case api.OpSplit:
		offsets(c.N)
		g, value, l, why = chardata.Split(f, c.A, uint32(c.N))
	case api.OpSetAttr:
		g, l, why = attrs.Set(f, c.A, c.S, c.T)
	case api.OpDelAttr:
		g, l, why = attrs.Remove(f, c.A, c.S)
	case api.OpToggle:
		force := api.Force(99)
		if c.N == 0 || c.N == 1 || c.N == 2 {
			force = api.Force(c.N)
		}
		g, l, is, why = tokens.Toggle(f, c.A, "class", c.S, force)
		value = asNumber(is)
	}
	m.changes(g, l, "", why)
	return value
}

func (m *model) opAssign(c api.Command) {
	hand, why := shadow.Give(m.s.Forest, m.s.Hand, c.A, c.List)
	must(why)
	var slots []int
	for i := range m.s.Forest.Nodes {
		was, no := shadow.Assigned(m.s.Forest, m.s.Hand, i+1)
		is, _ := shadow.Assigned(m.s.Forest, hand, i+1)
		if no == api.OK && !slices.Equal(was, is) {
			slots = append(slots, i+1)
		}
	}
	m.s.Hand = hand
	m.tell(slots)
}

func (m *model) opLive(c api.Command) (value int) {
	f := m.s.Forest
	why := api.OK
	switch c.Op {
	case api.OpRange:
		r := api.Range{Start: api.Bound{Node: c.A, Offset: c.N}, End: api.Bound{Node: c.B, Offset: c.M}}
		_, why = bounds.Common(f, r)
		must(why)
		if len(m.s.Ranges) >= 256 {
			must(api.ErrMany)
		}
		m.s.Ranges = append(slices.Clone(m.s.Ranges), r)
		return len(m.s.Ranges)
	case api.OpExtract, api.OpErase:
		return m.opTakeOut(c)
	case api.OpIterate:
		offsets(c.N)
		it, why := iterate.New(f, c.A, api.Filter{Show: uint32(c.N)})
		must(why)
		if len(m.s.Iterators) >= 256 {
			must(api.ErrMany)
		}
		m.s.Iterators = append(slices.Clone(m.s.Iterators), it)
		return len(m.s.Iterators)
	case api.OpStep:
		if c.A < 1 || c.A > len(m.s.Iterators) {
			must(api.ErrRange)
		}
		it := m.s.Iterators[c.A-1]
		if c.Yes {
			it, value, why = iterate.Next(f, it)
		} else {
			it, value, why = iterate.Prev(f, it)
		}
		must(why)
		m.s.Iterators = slices.Clone(m.s.Iterators)
		m.s.Iterators[c.A-1] = it
	case api.OpObserver:
		m.program(c.N)
		m.s.Watch, value, why = observe.New(m.s.Watch)
		m.s.Programs = append(slices.Clone(m.s.Programs), c.N)
	case api.OpObserve:
		m.s.Watch, why = observe.Observe(f, m.s.Watch, c.A, c.B, wanted(bits(c.N)))
	case api.OpTake:
		var l []api.Record
		m.s.Watch, l, why = observe.Take(m.s.Watch, c.A)
		value = len(l)
	case api.OpDisconnect:
		m.s.Watch, why = observe.Disconnect(m.s.Watch, c.A)
	}
	must(why)
	return value
}

func wanted(bits int) api.Options {
	said := [2]api.Said{api.SaidNone, api.SaidYes}
	return api.Options{
		Kids: bits&1 != 0, Subtree: bits&2 != 0, Attrs: said[bits>>2&1], Data: said[bits>>3&1], OldAttr: said[bits>>4&1], OldData: said[bits>>5&1],
	}
}

func (m *model) opTakeOut(c api.Command) (fragment int) {
	if c.A < 1 || c.A > len(m.s.Ranges) {
		must(api.ErrRange)
	}
	var g api.Forest
	var l []api.Change
	var r api.Range
	var why api.Errno
	if c.Op == api.OpExtract {
		g, fragment, r, l, why = extract.Extract(m.s.Forest, m.s.Ranges[c.A-1])
	} else {
		g, r, l, why = extract.Delete(m.s.Forest, m.s.Ranges[c.A-1])
	}
	m.changes(g, l, "", why)
	m.s.Ranges = slices.Clone(m.s.Ranges)
	m.s.Ranges[c.A-1] = r
	return fragment
}

func (m *model) opEvent(c api.Command) (value int) {
	why := api.OK
	var told []int
	switch c.Op {
	case api.OpListen:
		return m.opListen(c)
	case api.OpUnlisten:
		m.s.Listeners, value, why = listen.Remove(m.s.Listeners, c.A, c.S, c.N, bits(c.M)&1 != 0)
	case api.OpDispatch:
		if c.N < 0 {
			must(api.ErrRange)
		}
		return m.dispatch(c.S, c.A, c.N)
	case api.OpEffect:
		if len(m.runs) == 0 {
			must(api.ErrState)
		}
		if c.N < 0 || c.N > 3 {
			must(api.ErrType)
		}
		last := len(m.runs) - 1
		m.runs[last], why = dispatch.Act(m.runs[last], api.Effect(c.N))
	case api.OpSignal:
		m.s.Signals, value, why = abort.New(m.s.Signals, 0)
	case api.OpAny:
		m.s.Signals, value, why = abort.Any(m.s.Signals, c.List)
	case api.OpAbort:
		m.s.Signals, told, why = abort.Abort(m.s.Signals, c.A, c.N)
		must(why)
		for _, signal := range told {
			m.s.Listeners, why = listen.Abort(m.s.Listeners, signal)
			must(why)
		}
		value = len(told)
	}
	must(why)
	return value
}

func (m *model) opListen(c api.Command) int {
	if c.A < 1 || c.A > len(m.s.Forest.Nodes) || c.B < 0 || c.B > len(m.s.Signals) {
		must(api.ErrRange)
	}
	m.program(c.N)
	x := api.Listener{Node: c.A, Type: c.S, Callback: c.N, Capture: bits(c.M)&1 != 0, Once: bits(c.M)&2 != 0, Signal: c.B}
	if bits(c.M)&8 != 0 {
		x.Passive = api.PassiveOff
	}
	if bits(c.M)&4 != 0 {
		x.Passive = api.PassiveOn
	}
	n := m.s.Forest.Nodes[c.A-1]
	root := n.Kind == api.KindDocument || n.Kind == api.KindElement && n.Parent != 0 && m.s.Forest.Nodes[n.Parent-1].Kind == api.KindDocument
	aborted := c.B != 0 && m.s.Signals[c.B-1].Aborted
	l, id, why := listen.Add(m.s.Listeners, x, root, aborted)
	must(why)
	m.s.Listeners = l
	return id
}

func (m *model) opLater(c api.Command) (value int) {
	why := api.OK
	if (c.Op == api.OpTick || c.Op == api.OpTurn) && m.nest > 0 {
		must(api.ErrState)
	}
	switch c.Op {
	case api.OpDefine:
		m.opDefine(c)
	case api.OpTask:
		m.program(c.M)
		why = m.loop.Task(c.N, c.M)
	case api.OpMicro:
		m.program(c.M)
		why = m.loop.Micro(c.M)
	case api.OpTimer:
		m.program(c.M)
		value, why = m.loop.After(int64(c.N), m.nest, c.M)
	case api.OpClear:
		value = asNumber(m.loop.Clear(c.A))
	case api.OpTick:
		value, why = m.loop.Advance(int64(c.N))
	case api.OpTurn:
		if t := m.loop.Next(c.N); t.Kind == api.TurnTask {
			m.call(t.Id, api.BecauseTask, t.Source, 0)
			value = 1
		}
	}
	must(why)
	return value
}

func (m *model) opDefine(c api.Command) {
	if len(c.List) != 5 {
		must(api.ErrRange)
	}
	m.program(c.List[0])
	for _, n := range c.List {
		if n != 0 {
			m.program(n)
		}
	}
	d := api.Definition{Name: c.S, Local: c.T, Constructor: c.List[0], Connected: c.List[1], Disconnected: c.List[2], Adopted: c.List[3], Changed: c.List[4], Observed: c.Names}
	if c.T == "" {
		d.Local = c.S
	}
	reg, why := custom.Define(m.s.Registry, d)
	must(why)
	m.s.Registry = reg
	l, why := custom.Candidates(m.s.Forest, reg, 1, c.S)
	must(why)
	for _, h := range l {
		m.reacts, _, why = react.Try(m.s.Forest, m.reacts, reg, h)
		must(why)
	}
}

func (m *model) opAsk(c api.Command) (value int, text string) {
	f, is := m.s.Forest, false
	var all []int
	why := api.ErrType
	switch c.Op {
	case api.OpAsk:
		return m.question(c), ""
	case api.OpGet:
		text, is, why = attrs.Get(f, c.A, c.S)
		value = asNumber(is)
	case api.OpFind:
		all, why = find.Tag(f, c.A, c.S)
		value = len(all)
	case api.OpDump:
		text, why = forest.Print(f, c.A)
	}
	must(why)
	return value, text
}

func (m *model) question(c api.Command) (value int) {
	f := m.s.Forest
	value, why := order.Length(f, c.A)
	must(why)
	n := f.Nodes[c.A-1]
	switch c.N {
	case int(api.AskParent):
		value = n.Parent
	case int(api.AskFirst):
		value = append(slices.Clone(n.Kids), 0)[0]
	case int(api.AskKids):
		value = len(n.Kids)
	case int(api.AskLength):
	case int(api.AskIndex):
		value, why = order.Index(f, c.A)
	case int(api.AskRoot):
		value, why = order.Root(f, c.A)
	case int(api.AskTop):
		value, why = order.Top(f, c.A)
	case int(api.AskDoc):
		value = n.Doc
	case int(api.AskShadow):
		value = 0
		if n.Shadow != 0 && f.Nodes[n.Shadow-1].Mode == api.ShadowOpen {
			value = n.Shadow
		}
	case int(api.AskSlot):
		value, why = shadow.Slot(f, m.s.Hand, c.A, true)
	case int(api.AskState):
		value = 0
		for _, e := range m.s.Registry.Elements {
			if e.Node == c.A {
				value = int(e.State)
			}
		}
	default:
		why = api.ErrType
	}
	must(why)
	return value
}
