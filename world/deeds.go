package world

import "canopy/api"

// theDocument is the one that a world begins with.
const theDocument = 1

// answer is what is told of a command that was done.
type answer struct {
	value int
	text  string
}

// deed is what a command does: what it answers, or why it is refused.
type deed struct {
	does func(*World, api.Command) (answer, api.Errno)
}

// deedOf is what an op does; nothing, if it is none.
func deedOf(op api.Op) deed {
	if op >= api.OpCount {
		return deed{}
	}
	return [api.OpCount]deed{
		api.OpElement:    {(*World).element},
		api.OpText:       {(*World).text},
		api.OpComment:    {(*World).comment},
		api.OpFragment:   {(*World).fragment},
		api.OpClone:      {(*World).clone},
		api.OpAttach:     {(*World).attach},
		api.OpInsert:     {(*World).insert},
		api.OpReplace:    {(*World).replace},
		api.OpRemove:     {(*World).remove},
		api.OpNormalize:  {(*World).normalize},
		api.OpContent:    {(*World).content},
		api.OpAssign:     {(*World).assign},
		api.OpData:       {(*World).data},
		api.OpSplit:      {(*World).split},
		api.OpSetAttr:    {(*World).setAttr},
		api.OpDelAttr:    {(*World).delAttr},
		api.OpToggle:     {(*World).toggle},
		api.OpRange:      {(*World).beginRange},
		api.OpExtract:    {(*World).extract},
		api.OpErase:      {(*World).erase},
		api.OpIterate:    {(*World).iterate},
		api.OpStep:       {(*World).step},
		api.OpObserver:   {(*World).observer},
		api.OpObserve:    {(*World).observe},
		api.OpTake:       {(*World).take},
		api.OpDisconnect: {(*World).disconnect},
		api.OpListen:     {(*World).listen},
		api.OpUnlisten:   {(*World).unlisten},
		api.OpDispatch:   {(*World).send},
		api.OpEffect:     {(*World).effect},
		api.OpSignal:     {(*World).signal},
		api.OpAbort:      {(*World).abort},
		api.OpAny:        {(*World).any},
		api.OpDefine:     {(*World).define},
		api.OpTask:       {(*World).task},
		api.OpMicro:      {(*World).micro},
		api.OpTimer:      {(*World).timer},
		api.OpClear:      {(*World).clear},
		api.OpTick:       {(*World).tick},
		api.OpTurn:       {(*World).turn},
		api.OpAsk:        {(*World).ask},
		api.OpGet:        {(*World).get},
		api.OpFind:       {(*World).find},
		api.OpDump:       {(*World).dump},
	}[op]
}

// done has the changes of a call done, if it was not refused.
func (w *World) done(g api.Forest, l []api.Change, why api.Errno) (answer, api.Errno) {
	return w.made(g, l, 0, why)
}

// made is done, and tells a number.
func (w *World) made(g api.Forest, l []api.Change, number int, why api.Errno) (answer, api.Errno) {
	return w.become(g, l, "", number, why)
}

// become is made, where an element that is made gets is. That something must be told waits last of all, since that can't be taken back.
func (w *World) become(g api.Forest, l []api.Change, is string, number int, why api.Errno) (answer, api.Errno) {
	if why == api.OK {
		why = w.has.follow(g, l, is)
	}
	if why == api.OK {
		why = w.await()
	}
	return answer{value: number}, why
}

// number is an answer of a call that answers one.
func number(n int, why api.Errno) (answer, api.Errno) { return answer{value: n}, why }

// counted is 1 of what is so, else 0.
func counted(is bool) int {
	if is {
		return 1
	}
	return 0
}

// bit tells whether a number has a bit: one below 0 has none.
func bit(n, of int) bool { return n > 0 && n&of != 0 }

// offset tells whether a number is one: of 32 bits, without a sign.
func offset(n int) bool { return n >= 0 && n < 1<<32 }

// isNode tells whether a handle is of a node.
func (w *World) isNode(h int) bool { return h >= 1 && h <= len(w.has.Forest.Nodes) }

// node is that of a handle.
func (w *World) node(h int) *api.Node { return &w.has.Forest.Nodes[h-1] }

// isProgram tells whether each of some numbers is of a program.
func (w *World) isProgram(numbers ...int) bool {
	for _, n := range numbers {
		if n < 1 || n > len(w.programs) {
			return false
		}
	}
	return true
}
