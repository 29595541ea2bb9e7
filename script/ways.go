package script

import (
	"strings"

	"canopy/api"
)

// way is what can be done with a field of a command, whichever it is: written, read, kept in another one.
type way struct {
	write func(*page, api.Command)
	read  func(*reader, *api.Command) bool
	keep  func(to *api.Command, from api.Command)
}

// ways are those of all fields, by the letters of the table.
type ways map[rune]way

func allWays() ways {
	number := func(at func(*api.Command) *int) way {
		return wayOf(at, (*page).number, (*reader).number, itself[int])
	}
	text := func(at func(*api.Command) *string) way {
		return wayOf(at, (*page).quote, (*reader).text, strings.Clone)
	}
	return ways{
		'A': number(func(c *api.Command) *int { return &c.A }),
		'B': number(func(c *api.Command) *int { return &c.B }),
		'C': number(func(c *api.Command) *int { return &c.C }),
		'N': number(func(c *api.Command) *int { return &c.N }),
		'M': number(func(c *api.Command) *int { return &c.M }),
		'S': text(func(c *api.Command) *string { return &c.S }),
		'T': text(func(c *api.Command) *string { return &c.T }),
		'd': wayOf(func(c *api.Command) *api.Units { return &c.Data }, (*page).data, (*reader).data, copied),
		'l': wayOf(func(c *api.Command) *[]int { return &c.List }, (*page).numbers, (*reader).numbers, copied),
		'n': wayOf(func(c *api.Command) *[]string { return &c.Names }, (*page).texts, (*reader).texts, copiedTexts),
		'y': wayOf(func(c *api.Command) *bool { return &c.Yes }, (*page).yes, (*reader).yes, itself[bool]),
	}
}

// wayOf is the way of the field at a place of a command; anew is its value in new memory.
func wayOf[T any](at func(*api.Command) *T, write func(*page, T), read func(*reader) (T, bool), anew func(T) T) way {
	return way{
		write: func(p *page, c api.Command) { write(p, *at(&c)) },
		read: func(r *reader, c *api.Command) bool {
			v, ok := read(r)
			*at(c) = v
			return ok
		},
		keep: func(to *api.Command, from api.Command) { *at(to) = anew(*at(&from)) },
	}
}

func itself[T any](v T) T { return v }

func copied[L ~[]T, T any](l L) L { return append(L(nil), l...) }

func copiedTexts(l []string) []string {
	var m []string
	for _, s := range l {
		m = append(m, strings.Clone(s))
	}
	return m
}

// plain is a command with the fields that its op has.
func (w ways) plain(c api.Command) api.Command {
	kept := api.Command{Op: c.Op}
	for _, letter := range rowOf(c.Op).fields {
		w[letter].keep(&kept, c)
	}
	return kept
}

// line writes a command whose op is one.
func (w ways) line(p *page, c api.Command) {
	row := rowOf(c.Op)
	p.put(row.word)
	for _, letter := range row.fields {
		p.put(" ")
		w[letter].write(p, c)
	}
}

// command reads a command's line, all of it.
func (w ways) command(line string) (api.Command, bool) {
	r := &reader{line}
	op, ok := Find(r.word())
	c := api.Command{Op: op}
	for _, letter := range rowOf(op).fields {
		ok = ok && r.skip(' ') && w[letter].read(r, &c)
	}
	if !ok || r.rest != "" {
		return api.Command{}, false
	}
	return c, true
}
