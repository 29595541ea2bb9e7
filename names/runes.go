package names

import "unicode/utf8"

// span is runes that follow each other and may stand in a name, and whether they may begin one.
type span struct {
	first, last rune
	begins      bool
}

// spans rise, so that the first one that does not end ahead of a rune is the only one that may hold it.
var spans = [...]span{
	{'-', '.', false},
	{'0', '9', false},
	{':', ':', true},
	{'A', 'Z', true},
	{'_', '_', true},
	{'a', 'z', true},
	{0xb7, 0xb7, false},
	{0xc0, 0xd6, true},
	{0xd8, 0xf6, true},
	{0xf8, 0x2ff, true},
	{0x300, 0x36f, false},
	{0x370, 0x37d, true},
	{0x37f, 0x1fff, true},
	{0x200c, 0x200d, true},
	{0x203f, 0x2040, false},
	{0x2070, 0x218f, true},
	{0x2c00, 0x2fef, true},
	{0x3001, 0xd7ff, true},
	{0xf900, 0xfdcf, true},
	{0xfdf0, 0xfffd, true},
	{0x10000, 0xeffff, true},
}

// spanOf is the span that holds a rune; the zero span, if none does.
func spanOf(r rune) span {
	for _, s := range spans {
		if r > s.last {
			continue
		}
		if r >= s.first {
			return s
		}
		break
	}
	return span{}
}

// runs tells whether a text is one rune that first takes, and any number that rest takes.
func runs(s string, first, rest func(rune) bool) bool {
	if s == "" || !utf8.ValidString(s) { // going through s would show a wrong byte as U+FFFD, which may stand in names
		return false
	}
	takes := first
	for _, r := range s {
		if !takes(r) {
			return false
		}
		takes = rest
	}
	return true
}

// but takes what takes does, unless it is such as not tells.
func but(takes, not func(rune) bool) func(rune) bool {
	return func(r rune) bool { return takes(r) && !not(r) }
}

func colon(r rune) bool { return r == ':' }

func small(r rune) bool { return 'a' <= r && r <= 'z' }

func capital(r rune) bool { return 'A' <= r && r <= 'Z' }
