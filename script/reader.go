package script

import (
	"strconv"
	"strings"
	"unicode/utf8"

	"canopy/api"
)

// reader is what is left of a line, which is read rune by rune. Where nothing is left, or what is no rune, it meets utf8.RuneError, which stands in no line.
type reader struct{ rest string }

// next takes the first rune away.
func (r *reader) next() rune {
	sign, size := utf8.DecodeRuneInString(r.rest)
	r.rest = r.rest[size:]
	return sign
}

// skip takes a sign away, if it is the first one: whether it was.
func (r *reader) skip(sign rune) bool {
	rest, was := strings.CutPrefix(r.rest, string(sign))
	r.rest = rest
	return was
}

// word takes away what stands ahead of a blank, the end of a list, or the line's end.
func (r *reader) word() string {
	end := len(r.rest)
	for at, sign := range r.rest {
		if sign == ' ' || sign == ']' {
			end = at
			break
		}
	}
	word := r.rest[:end]
	r.rest = r.rest[end:]
	return word
}

// number reads what Itoa writes, and no other text of a number.
func (r *reader) number() (int, bool) {
	word := r.word()
	n, err := strconv.Atoi(word)
	return n, err == nil && strconv.Itoa(n) == word
}

func (r *reader) yes() (bool, bool) {
	word := r.word()
	return word == "yes", word == "yes" || word == "no"
}

func (r *reader) text() (string, bool) {
	l, ok := r.signs(ofBytes())
	text := make([]byte, len(l))
	for i, sign := range l {
		text[i] = byte(sign)
	}
	return string(text), ok
}

func (r *reader) data() (api.Units, bool) { return r.signs(ofUnits()) }

func (r *reader) numbers() ([]int, bool) { return items(r, (*reader).number) }

func (r *reader) texts() ([]string, bool) { return items(r, (*reader).text) }

// signs reads what stands between two marks.
func (r *reader) signs(e escape) ([]uint16, bool) {
	var l []uint16
	if !r.skip('"') {
		return nil, false
	}
	for !r.skip('"') {
		sign := r.next()
		ok := printable(sign)
		if sign == '\\' {
			sign, ok = r.escaped(e)
		}
		if !ok {
			return nil, false
		}
		l = append(l, uint16(sign))
	}
	return l, true
}

// escaped reads what stands behind a \, which is what could not stand without it.
func (r *reader) escaped(e escape) (rune, bool) {
	sign := r.next()
	if sign != e.letter {
		return sign, marked(sign)
	}
	n := rune(0)
	for range e.digits {
		digit := strings.IndexRune(hexDigits, r.next())
		if digit < 0 {
			return 0, false
		}
		n = n<<4 | rune(digit)
	}
	return n, !printable(n)
}

// items reads a list.
func items[T any](r *reader, read func(*reader) (T, bool)) ([]T, bool) {
	var l []T
	if !r.skip('[') {
		return nil, false
	}
	for !r.skip(']') {
		blank := r.skip(' ')
		v, ok := read(r)
		if !ok || blank != (len(l) > 0) {
			return nil, false
		}
		l = append(l, v)
	}
	return l, true
}
