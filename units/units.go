// Package units has strings of UTF-16 units, and the small change of texts: see ../../shared/DOC.md and doc/01-units.md.
package units

import (
	"slices"
	"strings"
	"unicode/utf8"

	"canopy/api"
)

// Where surrogates begin and end, and the first code point that is a pair of them.
const (
	firstHigh = 0xd800
	firstLow  = 0xdc00
	lastLow   = 0xdfff
	firstPair = 0x10000
)

// Of are a text's units.
func Of(s string) (api.Units, api.Errno) {
	var u api.Units
	for _, r := range s {
		u = appendRune(u, r)
		if len(u) > api.MaxData {
			return nil, api.ErrLong
		}
	}
	return u, api.OK
}

func appendRune(u api.Units, r rune) api.Units {
	if r < firstPair {
		return append(u, uint16(r))
	}
	over := r - firstPair
	return append(u, uint16(firstHigh+over>>10), uint16(firstLow+over&0x3ff))
}

// Text is the text of units, and whether some stood alone.
func Text(u api.Units) (string, bool) {
	var text strings.Builder
	alone := false
	for i := 0; i < len(u); i++ {
		r := rune(u[i])
		switch {
		case beginsPair(u[i:]):
			r = firstPair + (r-firstHigh)<<10 + (rune(u[i+1]) - firstLow)
			i++
		case isHigh(u[i]) || isLow(u[i]):
			r, alone = utf8.RuneError, true
		}
		text.WriteRune(r)
	}
	return text.String(), alone
}

func beginsPair(u api.Units) bool { return len(u) > 1 && isHigh(u[0]) && isLow(u[1]) }

func isHigh(unit uint16) bool { return firstHigh <= unit && unit < firstLow }

func isLow(unit uint16) bool { return firstLow <= unit && unit <= lastLow }

// Sub are some of the units.
func Sub(u api.Units, offset, count uint32) (api.Units, api.Errno) {
	from, to, why := reach(u, offset, count)
	if why != api.OK {
		return nil, why
	}
	return slices.Clone(u[from:to]), api.OK
}

// Replace has other units in the place of some.
func Replace(u api.Units, offset, count uint32, v api.Units) (api.Units, api.Errno) {
	from, to, why := reach(u, offset, count)
	if why != api.OK {
		return nil, why
	}
	if len(u)-(to-from)+len(v) > api.MaxData {
		return nil, api.ErrLong
	}
	return slices.Concat(u[:from], v, u[to:]), api.OK
}

// reach holds the count against what is left rather than adding it to the offset: the sum of the two may not fit.
func reach(u api.Units, offset, count uint32) (int, int, api.Errno) {
	if uint64(offset) > uint64(len(u)) {
		return 0, 0, api.ErrIndexSize
	}
	from := int(offset)
	left := len(u) - from
	return from, from + int(min(uint64(count), uint64(left))), api.OK
}

// Compare holds two against each other.
func Compare(u, v api.Units) int { return slices.Compare(u, v) }

// Wrap is a number as an unsigned long.
func Wrap(n int64) uint32 { return uint32(n) }

// Lower has small ASCII letters. It goes by bytes: those that are of no code point stay as they are.
func Lower(s string) string {
	b := []byte(s)
	for i, c := range b {
		if 'A' <= c && c <= 'Z' {
			b[i] = c - 'A' + 'a'
		}
	}
	return string(b)
}

// Fold tells whether two texts are one but for the case of ASCII letters.
func Fold(s, t string) bool { return Lower(s) == Lower(t) }

// Blank tells whether a byte is ASCII whitespace.
func Blank(b byte) bool {
	switch b {
	case '\t', '\n', '\f', '\r', ' ':
		return true
	}
	return false
}

// Strip takes ASCII whitespace away at both ends.
func Strip(s string) string {
	return strings.Clone(strings.TrimFunc(s, ofRunes(Blank)))
}

// Collapse is Strip, and has one blank for each run.
func Collapse(s string) string { return strings.Join(Split(s), " ") }

// Split cuts at ASCII whitespace. The words are copies: a piece of s would share its memory.
func Split(s string) []string {
	words := strings.FieldsFunc(s, ofRunes(Blank))
	for i, w := range words {
		words[i] = strings.Clone(w)
	}
	return words
}

// ofRunes asks of runes what is asked of bytes: a rune of several bytes, or a byte that is of none, never is such.
func ofRunes(ask func(byte) bool) func(rune) bool {
	return func(r rune) bool { return r < utf8.RuneSelf && ask(byte(r)) }
}

// Set has each of some once.
func Set(l []string) []string {
	var once []string
	seen := map[string]struct{}{}
	for _, s := range l {
		if _, known := seen[s]; known {
			continue
		}
		seen[s] = struct{}{}
		once = append(once, strings.Clone(s))
	}
	return once
}
