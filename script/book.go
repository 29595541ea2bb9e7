package script

import (
	"strings"

	"canopy/api"
)

// The lines of a script's text that are no commands; behind fuelWord a number stands.
const (
	fuelWord    = "fuel"
	programLine = "program"
	endLine     = "end"
	mainLine    = "main"
)

// lines writes commands, a line each.
func (w ways) lines(p *page, l []api.Command) {
	for _, c := range l {
		w.line(p, c)
		p.put("\n")
	}
}

// script writes a script whose commands all have ops.
func (w ways) script(p *page, s api.Script) {
	p.put(fuelWord + " ")
	p.number(s.Fuel)
	p.put("\n")
	for _, l := range s.Programs {
		p.put(programLine + "\n")
		w.lines(p, l)
		p.put(endLine + "\n")
	}
	p.put(mainLine + "\n")
	w.lines(p, s.Commands)
}

// book is what is left of a script's text, the number of the line that was read last, and how many commands there were.
type book struct {
	ways     ways
	rest     string
	at       int
	commands int
}

// line takes the next line away, whole if it has an LF. Where none is left, it is the one that is missing.
func (b *book) line() (string, bool) {
	b.at++
	line, rest, whole := strings.Cut(b.rest, "\n")
	b.rest = rest
	return line, whole
}

// skip takes a line away, if it is the next one: whether it was.
func (b *book) skip(line string) bool {
	rest, was := strings.CutPrefix(b.rest, line+"\n")
	if was {
		b.rest = rest
		b.at++
	}
	return was
}

// script reads all of it.
func (b *book) script() (api.Script, api.Errno) {
	var s api.Script
	fuel, why := b.fuel()
	for why == api.OK && !b.skip(mainLine) {
		var program []api.Command
		program, why = b.program(len(s.Programs))
		s.Programs = append(s.Programs, program)
	}
	if why == api.OK {
		s.Commands, why = b.block(func() bool { return b.rest == "" })
	}
	s.Fuel = fuel
	return s, why
}

func (b *book) fuel() (int, api.Errno) {
	line, whole := b.line()
	r := &reader{line}
	known := r.word() == fuelWord && r.skip(' ')
	fuel, is := r.number()
	if !whole || !known || !is || r.rest != "" {
		return 0, api.ErrSyntax
	}
	return fuel, api.OK
}

// program reads one more, behind others.
func (b *book) program(others int) ([]api.Command, api.Errno) {
	line, whole := b.line()
	switch {
	case !whole || line != programLine:
		return nil, api.ErrSyntax
	case others == api.MaxPrograms:
		return nil, api.ErrMany
	}
	return b.block(func() bool { return b.skip(endLine) })
}

// block reads commands till they are ended.
func (b *book) block(ended func() bool) ([]api.Command, api.Errno) {
	var l []api.Command
	for !ended() {
		c, why := b.command()
		if why != api.OK {
			return nil, why
		}
		l = append(l, c)
	}
	return l, api.OK
}

func (b *book) command() (api.Command, api.Errno) {
	line, whole := b.line()
	c, is := b.ways.command(line)
	switch {
	case !whole || !is:
		return api.Command{}, api.ErrSyntax
	case b.commands == api.MaxCommands:
		return api.Command{}, api.ErrMany
	}
	b.commands++
	return c, api.OK
}
