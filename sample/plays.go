package sample

import "canopy/api"

// play is a script that is written: how many nodes and programs it may name, and which nodes were put into which, as it has it.
type play struct {
	d        *Dice
	nodes    int
	programs int
	hung     [][2]int
}

// Play is a script that can be done: its commands name, most often, what is there then, so that much becomes of them.
func Play(d *Dice) api.Script {
	p := &play{d: d, nodes: 1, programs: 2 + d.Below(4)}
	s := api.Script{Fuel: 40 + d.Below(260)}
	if d.Below(4) == 0 {
		s.Fuel = d.Below(60)
	}
	s.Commands = p.scene()
	for range 10 + d.Below(30) {
		s.Commands = append(s.Commands, p.command())
	}
	for range p.programs {
		s.Programs = append(s.Programs, p.program())
	}
	return s
}

// program is a few commands; now and then some that are never refused.
func (p *play) program() []api.Command {
	var l []api.Command
	for range p.d.Below(5) {
		switch p.d.Below(4) {
		case 0:
			l = append(l, api.Command{Op: api.OpEffect, N: p.d.Below(4)})
		case 1:
			l = append(l, api.Command{Op: api.OpSignal})
		default:
			l = append(l, p.command())
		}
	}
	return l[p.d.Below(len(l)+1):]
}

// scene is how most plays begin: some of a document with a host, slots, observers, listeners and definitions, and another document.
func (p *play) scene() []api.Command {
	p.nodes = 7
	all := []api.Command{
		{Op: api.OpElement, S: "div"}, p.hang(2, 1),
		{Op: api.OpElement, S: "x-a", T: p.one("", "", "x-b")}, p.hang(3, 2),
		{Op: api.OpAttach, A: 2, N: 1 + p.d.Below(2), Yes: p.d.Below(4) == 0},
		{Op: api.OpElement, S: "slot"}, p.hang(5, 4),
		{Op: api.OpText, Data: Data(p.d)}, p.hang(6, 2),
		{Op: api.OpClone, A: 1}, {Op: api.OpSignal}, {Op: api.OpObserver, N: p.number()},
		{Op: api.OpObserve, A: 1, B: 1 + p.d.Below(2), N: 15 + 16*p.d.Below(4)},
		{Op: api.OpListen, A: 1 + p.d.Below(5), S: "x", N: p.number(), M: p.d.Below(4), B: p.d.Below(2)},
		{Op: api.OpListen, A: 5, S: "slotchange", N: p.number()},
		p.define("x-a", ""),
		{Op: api.OpRange, A: 6, B: 2, M: 1}, {Op: api.OpRange, A: 2, B: 2, M: 1}, {Op: api.OpIterate, A: 1, N: api.ShowAll},
	}
	if p.d.Below(4) > 0 {
		return all
	}
	return all[:p.d.Below(len(all)+1)]
}

func (p *play) one(words ...string) string { return words[p.d.Below(len(words))] }

// hang puts a node into another one.
func (p *play) hang(h, parent int) api.Command {
	p.hung = append(p.hung, [2]int{h, parent})
	return api.Command{Op: api.OpInsert, A: h, B: parent}
}

// pair is a node, and the one that it was put into.
func (p *play) pair() (int, int) {
	if len(p.hung) == 0 || p.d.Below(6) == 0 {
		return p.node(), p.node()
	}
	at := p.hung[p.d.Below(len(p.hung))]
	return at[0], at[1]
}

// node is the handle of a node that may be there; of none, now and then.
func (p *play) node() int {
	if p.d.Below(24) == 0 {
		return p.d.Below(3)*(p.nodes+40) - 1
	}
	return 1 + p.d.Below(p.nodes)
}

// number is that of a program; of none, now and then.
func (p *play) number() int {
	if p.d.Below(30) == 0 {
		return p.d.Below(3)*(p.programs+1) - 1
	}
	return 1 + p.d.Below(p.programs)
}

// small is a number of something of which there are few.
func (p *play) small() int {
	if p.d.Below(16) == 0 {
		return []int{-1, 99, 1 << 32, 1<<32 - 1, -1 << 63, 256}[p.d.Below(6)]
	}
	return p.d.Below(4)
}

func (p *play) handles() []int {
	var l []int
	for range p.d.Below(4) {
		l = append(l, p.node())
	}
	return l
}

func (p *play) define(name, local string) api.Command {
	l := []int{p.number()}
	for range 4 {
		l = append(l, p.number()*min(1, p.d.Below(5)))
	}
	if p.d.Below(12) == 0 {
		l = l[p.d.Below(5):]
	}
	return api.Command{Op: api.OpDefine, S: name, T: local, List: l, Names: []string{"id", "slot"}[:p.d.Below(3)]}
}

// command is one of any op; more often of one by which much becomes of a play.
func (p *play) command() api.Command {
	ops := [...]api.Op{
		api.OpElement, api.OpInsert, api.OpInsert, api.OpRemove, api.OpDispatch, api.OpDispatch, api.OpSetAttr, api.OpDefine, api.OpListen, api.OpMicro,
	}
	op := ops[p.d.Below(len(ops))]
	if p.d.Below(3) > 0 {
		op = api.Op(p.d.Below(int(api.OpCount)))
	}
	c := Command(p.d, op)
	if op == api.OpNone {
		c.Op += api.OpCount * api.Op(p.d.Below(3))
	}
	c.A, c.B, c.C, c.N, c.M = p.node(), p.node(), p.d.Below(3)*p.node(), p.small(), p.small()
	c.S, c.T, c.List = p.one("id", "slot", "name", "class"), p.one("", "a", "b"), p.handles()
	if op < api.OpRange {
		return p.ofNodes(c)
	}
	return p.ofOthers(c)
}

// ofNodes has the fields of a command be such as its op may name; whatever that has not stays as it is.
func (p *play) ofNodes(c api.Command) api.Command {
	switch c.Op {
	case api.OpText, api.OpComment, api.OpFragment, api.OpClone:
		p.nodes++
	case api.OpElement:
		p.nodes++
		c.S, c.T = p.one("p", "div", "slot", "x-a", "x-b", "button", "A", "1"), p.one("", "", "x-b")
	case api.OpAttach:
		p.nodes++
		c.N = 1 + p.d.Below(2) + p.d.Below(8)/7
	case api.OpInsert:
		if p.d.Below(12) == 0 {
			c.A, c.B = 3, 7 // a custom element, and another document
		}
		p.hang(c.A, c.B)
		c.C *= p.d.Below(2)
	case api.OpRemove:
		c.A, c.B = p.pair()
	case api.OpReplace:
		c.C, c.B = p.pair()
	case api.OpAssign:
		c.A = p.node() * p.d.Below(2)
		if c.A == 0 {
			c.A, c.List = 5, []int{3, 6}[:p.d.Below(3)]
		}
	case api.OpData, api.OpSplit:
		if p.d.Below(2) == 0 {
			c.A = 6
		}
	case api.OpSetAttr:
		c.A = c.A + (3-c.A)*p.d.Below(2)
	case api.OpToggle, api.OpDelAttr:
		c.S = p.one("a", "b", "id", "")
	}
	return c
}

// ofOthers is ofNodes, of ops that do not change nodes alone.
func (p *play) ofOthers(c api.Command) api.Command {
	switch c.Op {
	case api.OpRange:
		if p.d.Below(3) > 0 {
			c.B, c.N = c.A, 0
		}
	case api.OpExtract, api.OpErase, api.OpStep, api.OpTake, api.OpDisconnect, api.OpAbort, api.OpClear:
		c.A = 1 + p.small()*p.d.Below(2)
	case api.OpObserve:
		c.A, c.N = 1+p.small()*p.d.Below(2), max(p.d.Below(64), p.small())
	case api.OpObserver:
		c.N = p.number()
	case api.OpListen, api.OpUnlisten:
		c.S, c.N, c.M, c.B = p.one("x", "x", "y", "slotchange", "wheel"), p.number(), p.d.Below(16), max(0, p.small()-2)
	case api.OpDispatch:
		c.S, c.N = p.one("x", "x", "y", "slotchange"), p.d.Below(9)-p.d.Below(12)/11
	case api.OpAny:
		c.List = []int{1 + p.small(), 1 + p.small()}[:p.d.Below(3)]
	case api.OpDefine:
		return p.define(p.one("x-a", "x-b", "x-c", "p"), p.one("", "", "button", "x-a"))
	case api.OpTask, api.OpMicro, api.OpTimer:
		c.M = p.number()
	case api.OpAsk:
		c.N = p.d.Below(int(api.AskCount) + 1)
	case api.OpFind:
		c.S = p.one("*", "div", "x-a", "SLOT")
	}
	return c
}
