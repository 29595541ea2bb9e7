package script

import (
	"strconv"

	"canopy/api"
)

// page is a text that is written, of so many bytes at most. What would be longer is not written on, so that no more is done for it than for a text that is let in.
type page struct {
	text []byte
	most int
	long bool
}

func (p *page) put(s string) {
	p.long = p.long || len(s) > p.most-len(p.text)
	if !p.long {
		p.text = append(p.text, s...)
	}
}

// told is the text, if it is not too long.
func (p *page) told() (string, api.Errno) {
	if p.long {
		return "", api.ErrLong
	}
	return string(p.text), api.OK
}

func (p *page) number(n int) { p.put(strconv.Itoa(n)) }

func (p *page) yes(is bool) {
	if is {
		p.put("yes")
	} else {
		p.put("no")
	}
}

func (p *page) quote(s string) {
	p.signs(len(s), func(i int) rune { return rune(s[i]) }, ofBytes())
}

func (p *page) data(u api.Units) {
	p.signs(len(u), func(i int) rune { return rune(u[i]) }, ofUnits())
}

func (p *page) numbers(l []int) { list(p, l, (*page).number) }

func (p *page) texts(l []string) { list(p, l, (*page).quote) }

// signs writes n of them between two marks.
func (p *page) signs(n int, at func(int) rune, e escape) {
	p.put(`"`)
	for i := 0; i < n && !p.long; i++ {
		p.sign(at(i), e)
	}
	p.put(`"`)
}

func (p *page) sign(sign rune, e escape) {
	switch {
	case !printable(sign):
		p.put(`\` + string(e.letter) + hex(sign, e.digits))
	case marked(sign):
		p.put(`\` + string(sign))
	default:
		p.put(string(sign))
	}
}

func hex(n rune, digits int) string {
	text := make([]byte, digits)
	for i := range text {
		text[digits-1-i] = hexDigits[n>>(4*i)&15]
	}
	return string(text)
}

func list[T any](p *page, l []T, write func(*page, T)) {
	p.put("[")
	for i := 0; i < len(l) && !p.long; i++ {
		if i > 0 {
			p.put(" ")
		}
		write(p, l[i])
	}
	p.put("]")
}
