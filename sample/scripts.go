package sample

import (
	"slices"

	"canopy/api"
)

// Command is one of an op with something in every field, whether the op has it or not.
func Command(d *Dice, op api.Op) api.Command {
	c := api.Command{
		Op: op, A: number(d), B: number(d), C: number(d), N: number(d), M: number(d),
		S: anyText(d), T: anyText(d), Yes: d.Below(2) == 0,
	}
	for range d.Below(6) {
		c.Data = append(c.Data, unit(d))
	}
	for range d.Below(4) {
		c.List = append(c.List, number(d))
	}
	for range d.Below(4) {
		c.Names = append(c.Names, anyText(d))
	}
	return c
}

// number is small most of the time, and now and then the least or the greatest one.
func number(d *Dice) int {
	const most = 1<<63 - 1
	switch d.Below(12) {
	case 0:
		return most
	case 1:
		return -most - 1
	case 2:
		return d.Below(1<<31)<<31 | d.Below(1<<31)
	}
	return d.Below(40) - 15
}

// anyText is one of any bytes.
func anyText(d *Dice) string {
	var s []byte
	for range d.Below(6) {
		s = append(s, byte(unit(d)))
	}
	return string(s)
}

// unit is a letter, a mark that texts must escape, one beside those that stand as they are, or any.
func unit(d *Dice) uint16 {
	some := [...]uint16{'"', '\\', ' ', '~', 31, 127, 0, 10, 128, 255, 256, 0xd83d, 0xffff, 'x', 'u', ']'}
	switch d.Below(3) {
	case 0:
		return some[d.Below(len(some))]
	case 1:
		return uint16(d.Below(1 << 16))
	}
	return uint16('a' + d.Below(26))
}

// Commands are some, of ops of any sort.
func Commands(d *Dice) []api.Command {
	var l []api.Command
	for range d.Below(5) {
		l = append(l, Command(d, api.OpElement+api.Op(d.Below(int(api.OpCount-api.OpElement)))))
	}
	return l
}

// Script is one of a few programs, some of them empty.
func Script(d *Dice) api.Script {
	s := api.Script{Fuel: number(d), Commands: Commands(d)}
	for range d.Below(4) {
		s.Programs = append(s.Programs, Commands(d))
	}
	return s
}

// SameCommand holds two commands against each other in all fields; nil and empty lists are alike.
func SameCommand(a, b api.Command) bool {
	lists := slices.Equal(a.Data, b.Data) && slices.Equal(a.List, b.List) && slices.Equal(a.Names, b.Names)
	return lists && a.Op == b.Op && a.A == b.A && a.B == b.B && a.C == b.C && a.N == b.N && a.M == b.M &&
		a.S == b.S && a.T == b.T && a.Yes == b.Yes
}

// SameScript holds two scripts against each other.
func SameScript(a, b api.Script) bool {
	programs := slices.EqualFunc(a.Programs, b.Programs, func(l, m []api.Command) bool { return slices.EqualFunc(l, m, SameCommand) })
	return programs && slices.EqualFunc(a.Commands, b.Commands, SameCommand) && a.Fuel == b.Fuel
}

// CopyCommand has lists of its own.
func CopyCommand(c api.Command) api.Command {
	c.Data = append(api.Units(nil), c.Data...)
	c.List = append([]int(nil), c.List...)
	c.Names = append([]string(nil), c.Names...)
	return c
}

// RoomyCommand is a copy that has room behind each list.
func RoomyCommand(c api.Command) api.Command {
	c = CopyCommand(c)
	c.Data, c.List, c.Names = roomy(c.Data), roomy(c.List), roomy(c.Names)
	return c
}

// SpoilCommand writes over all lists of a command, and over the room behind them.
func SpoilCommand(c api.Command) {
	Fill(c.Data, spoiltUnit)
	Fill(c.List, spoiltHandle)
	Fill(c.Names, spoiltValue)
}

// SpoiltCommand tells whether a list of a command, or the room behind it, was written over.
func SpoiltCommand(c api.Command) bool {
	return has(c.Data, spoiltUnit) || has(c.List, spoiltHandle) || has(c.Names, spoiltValue)
}

// CopyScript has lists of its own, in every command, too.
func CopyScript(s api.Script) api.Script { return eachCommand(s, CopyCommand) }

// RoomyScript is a copy that has room behind each list.
func RoomyScript(s api.Script) api.Script {
	s = eachCommand(s, RoomyCommand)
	s.Commands, s.Programs = roomy(s.Commands), roomy(s.Programs)
	for i, l := range s.Programs {
		s.Programs[i] = roomy(l)
	}
	return s
}

// eachCommand is a script in new memory, of what is made of its commands.
func eachCommand(s api.Script, made func(api.Command) api.Command) api.Script {
	all := func(l []api.Command) []api.Command {
		var m []api.Command
		for _, c := range l {
			m = append(m, made(c))
		}
		return m
	}
	t := api.Script{Fuel: s.Fuel, Commands: all(s.Commands)}
	for _, l := range s.Programs {
		t.Programs = append(t.Programs, all(l))
	}
	return t
}

// SpoilScript writes over all lists of a script, and over the room behind them.
func SpoilScript(s api.Script) {
	for _, l := range append([][]api.Command{s.Commands}, s.Programs...) {
		for _, c := range l {
			SpoilCommand(c)
		}
		Fill(l, api.Command{Op: spoiltKind})
	}
	Fill(s.Programs, nil)
}
