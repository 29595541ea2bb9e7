package units_test

import (
	"math"
	"slices"
	"strings"
	"testing"
	"unicode/utf16"
	"unicode/utf8"

	"canopy/api"
	"canopy/units"
)

// strange are units at the edges of surrogates and beside them.
var strange = []uint16{0, 'a', 0xd7ff, 0xd800, 0xdbff, 0xdc00, 0xdfff, 0xe000, 0xfffd, 0xffff}

// lists are all lists of up to longest of some.
func lists[T any](of []T, longest int) [][]T {
	all := [][]T{nil}
	last := all
	for range longest {
		var next [][]T
		for _, l := range last {
			for _, x := range of {
				next = append(next, append(slices.Clone(l), x))
			}
		}
		all = append(all, next...)
		last = next
	}
	return all
}

func texts(of []byte, longest int) []string {
	var all []string
	for _, b := range lists(of, longest) {
		all = append(all, string(b))
	}
	return all
}

func many(unit uint16, n int) api.Units { return slices.Repeat(api.Units{unit}, n) }

// 1.1: Of.
func TestOf(t *testing.T) {
	for s, want := range map[string]api.Units{
		"":                 nil,
		"a":                {'a'},
		"\x00":             {0},
		"aé€":              {'a', 0xe9, 0x20ac},
		"a😀":               {0x61, 0xd83d, 0xde00},
		"😀a":               {0xd83d, 0xde00, 0x61},
		"\ud7ff\ue000":     {0xd7ff, 0xe000},
		"\ufffd":           {0xfffd},
		"\uffff":           {0xffff},
		"\U00010000":       {0xd800, 0xdc00},
		"\U000103ff":       {0xd800, 0xdfff},
		"\U00010400":       {0xd801, 0xdc00},
		"\U0010ffff":       {0xdbff, 0xdfff},
		"a\xffb":           {'a', 0xfffd, 'b'},
		"\x80\x80":         {0xfffd, 0xfffd},
		"\xc0\x80":         {0xfffd, 0xfffd},
		"\xed\xa0\x80":     {0xfffd, 0xfffd, 0xfffd},
		"\xf0\x9f\x98":     {0xfffd, 0xfffd, 0xfffd},
		"\xf4\x90\x80\x80": {0xfffd, 0xfffd, 0xfffd, 0xfffd},
	} {
		if u, why := units.Of(s); !slices.Equal(u, want) || why != api.OK {
			t.Errorf("Of(%q) = %x, %d; want %x", s, u, why, want)
		}
	}
	for _, s := range texts([]byte{0, 'a', 0x80, 0x9f, 0xa0, 0xbf, 0xc3, 0xe2, 0xed, 0xf0, 0xf4, 0xff}, 4) {
		if u, why := units.Of(s); !slices.Equal(u, utf16.Encode([]rune(s))) || why != api.OK {
			t.Fatalf("Of(%q) = %x, %d", s, u, why)
		}
	}
}

// 1.1: what is too long is told by units, not by bytes or code points.
func TestOfLong(t *testing.T) {
	half := strings.Repeat("😀", api.MaxData/2)
	for _, x := range []struct {
		s    string
		n    int
		want api.Errno
	}{
		{strings.Repeat("a", api.MaxData-1), api.MaxData - 1, api.OK},
		{strings.Repeat("a", api.MaxData), api.MaxData, api.OK},
		{strings.Repeat("a", api.MaxData+1), 0, api.ErrLong},
		{strings.Repeat("€", api.MaxData), api.MaxData, api.OK},
		{strings.Repeat("€", api.MaxData+1), 0, api.ErrLong},
		{strings.Repeat("\xff", api.MaxData), api.MaxData, api.OK},
		{strings.Repeat("\xff", api.MaxData+1), 0, api.ErrLong},
		{half, api.MaxData, api.OK},
		{half + "a", 0, api.ErrLong},
		{"a" + half, 0, api.ErrLong},
		{half + half, 0, api.ErrLong},
	} {
		if u, why := units.Of(x.s); len(u) != x.n || why != x.want {
			t.Errorf("Of(%d bytes): %d units, error %d; want %d, %d", len(x.s), len(u), why, x.n, x.want)
		}
	}
}

// 1.1: Text.
func TestText(t *testing.T) {
	for _, x := range []struct {
		u     api.Units
		s     string
		alone bool
	}{
		{nil, "", false},
		{api.Units{}, "", false},
		{api.Units{'a', 0, 0xe9}, "a\x00é", false},
		{api.Units{0xd83d, 0xde00}, "😀", false},
		{api.Units{0xd800, 0xdc00, 0xdbff, 0xdfff}, "\U00010000\U0010ffff", false},
		{api.Units{0xd800, 0xdfff, 0xd801, 0xdc00}, "\U000103ff\U00010400", false},
		{api.Units{0xd7ff, 0xe000, 0xffff}, "\ud7ff\ue000\uffff", false},
		{api.Units{0xfffd}, "\ufffd", false},
		{api.Units{0xde00, 'a'}, "\ufffda", true},
		{api.Units{'a', 0xd83d}, "a\ufffd", true},
		{api.Units{0xd83d, 'a', 0xde00}, "\ufffda\ufffd", true},
		{api.Units{0xde00, 0xd83d}, "\ufffd\ufffd", true},
		{api.Units{0xd83d, 0xd83d, 0xde00}, "\ufffd😀", true},
		{api.Units{0xd83d, 0xde00, 0xde00}, "😀\ufffd", true},
		{api.Units{0xde00, 0xd83d, 0xde00, 'a'}, "\ufffd😀a", true},
	} {
		if s, alone := units.Text(x.u); s != x.s || alone != x.alone {
			t.Errorf("Text(%x) = %q, %t; want %q, %t", x.u, s, alone, x.s, x.alone)
		}
	}
	for unit := range 1 << 16 {
		stands := 0xd800 <= unit && unit <= 0xdfff
		if s, alone := units.Text(api.Units{uint16(unit)}); s != string(rune(unit)) || alone != stands {
			t.Fatalf("Text(%x) = %q, %t", unit, s, alone)
		}
	}
	for _, u := range lists(strange, 4) {
		runes := utf16.Decode(u)
		lost := !slices.Equal(utf16.Encode(runes), u)
		if s, alone := units.Text(u); s != string(runes) || alone != lost {
			t.Fatalf("Text(%x) = %q, %t; want %q, %t", u, s, alone, string(runes), lost)
		}
	}
	if s, alone := units.Text(many('a', api.MaxData+1)); len(s) != api.MaxData+1 || alone {
		t.Error("Text has no limit:", len(s), alone)
	}
}

// 1.1: Compare goes by units, not by code points.
func TestCompare(t *testing.T) {
	for _, x := range []struct {
		u, v api.Units
		want int
	}{
		{nil, nil, 0},
		{nil, api.Units{}, 0},
		{nil, api.Units{0}, -1},
		{api.Units{'a'}, api.Units{'a', 'b'}, -1},
		{api.Units{'b'}, api.Units{'a', 'b'}, 1},
		{api.Units{'a', 'c'}, api.Units{'a', 'b', 'z'}, 1},
		{api.Units{'a', 'b'}, api.Units{'a', 'b'}, 0},
		{api.Units{0x7fff}, api.Units{0x8000}, -1},
		{api.Units{0}, api.Units{0xffff}, -1},
		{api.Units{0x0100}, api.Units{0x00ff}, 1},
		{api.Units{0xd83d, 0xde00}, api.Units{0xffff}, -1},
		{api.Units{0xd83d, 0xde00}, api.Units{0xd83d, 0xde01}, -1},
	} {
		if got := units.Compare(x.u, x.v); got != x.want {
			t.Errorf("Compare(%x, %x) = %d; want %d", x.u, x.v, got, x.want)
		}
		if got := units.Compare(x.v, x.u); got != -x.want {
			t.Errorf("Compare(%x, %x) = %d; want %d", x.v, x.u, got, -x.want)
		}
	}
}

// 1.2: Sub.
func TestSub(t *testing.T) {
	abc := api.Units{'a', 'b', 'c'}
	for _, x := range []struct {
		u             api.Units
		offset, count uint32
		want          api.Units
		why           api.Errno
	}{
		{abc, 0, 0, nil, api.OK},
		{abc, 0, 1, api.Units{'a'}, api.OK},
		{abc, 1, 1, api.Units{'b'}, api.OK},
		{abc, 0, 3, abc, api.OK},
		{abc, 0, 4, abc, api.OK},
		{abc, 1, 2, api.Units{'b', 'c'}, api.OK},
		{abc, 1, 4294967295, api.Units{'b', 'c'}, api.OK},
		{abc, 2, 4294967295, api.Units{'c'}, api.OK},
		{abc, 0, 4294967295, abc, api.OK},
		{abc, 3, 0, nil, api.OK},
		{abc, 3, 4294967295, nil, api.OK},
		{abc, 4, 0, nil, api.ErrIndexSize},
		{abc, 4, 4294967295, nil, api.ErrIndexSize},
		{abc, 4294967295, 0, nil, api.ErrIndexSize},
		{abc, 4294967295, 4294967295, nil, api.ErrIndexSize},
		{api.Units{'a'}, 2, 0, nil, api.ErrIndexSize},
		{nil, 0, 4294967295, nil, api.OK},
		{nil, 1, 0, nil, api.ErrIndexSize},
		{api.Units{0xd83d, 0xde00}, 1, 1, api.Units{0xde00}, api.OK},
		{many('a', api.MaxData+2), 1, 4294967295, many('a', api.MaxData+1), api.OK},
	} {
		if v, why := units.Sub(x.u, x.offset, x.count); !slices.Equal(v, x.want) || why != x.why {
			t.Errorf("Sub(%d units, %d, %d) = %d units, %d; want %d, %d", len(x.u), x.offset, x.count, len(v), why, len(x.want), x.why)
		}
	}
}

// 1.2: Replace.
func TestReplace(t *testing.T) {
	abc, xy := api.Units{'a', 'b', 'c'}, api.Units{'x', 'y'}
	for _, x := range []struct {
		u             api.Units
		offset, count uint32
		v, want       api.Units
		why           api.Errno
	}{
		{abc, 0, 0, xy, api.Units{'x', 'y', 'a', 'b', 'c'}, api.OK},
		{abc, 0, 1, xy, api.Units{'x', 'y', 'b', 'c'}, api.OK},
		{abc, 1, 1, xy, api.Units{'a', 'x', 'y', 'c'}, api.OK},
		{abc, 1, 2, xy, api.Units{'a', 'x', 'y'}, api.OK},
		{abc, 1, 9, xy, api.Units{'a', 'x', 'y'}, api.OK},
		{abc, 1, 4294967295, xy, api.Units{'a', 'x', 'y'}, api.OK},
		{abc, 3, 0, xy, api.Units{'a', 'b', 'c', 'x', 'y'}, api.OK},
		{abc, 3, 4294967295, xy, api.Units{'a', 'b', 'c', 'x', 'y'}, api.OK},
		{abc, 0, 4294967295, nil, nil, api.OK},
		{abc, 1, 1, nil, api.Units{'a', 'c'}, api.OK},
		{abc, 4, 0, xy, nil, api.ErrIndexSize},
		{abc, 4294967295, 4294967295, xy, nil, api.ErrIndexSize},
		{nil, 0, 0, nil, nil, api.OK},
		{nil, 0, 1, xy, xy, api.OK},
		{nil, 1, 0, nil, nil, api.ErrIndexSize},
		{api.Units{0xd83d, 0xde00}, 1, 0, api.Units{'a'}, api.Units{0xd83d, 'a', 0xde00}, api.OK},
	} {
		if got, why := units.Replace(x.u, x.offset, x.count, x.v); !slices.Equal(got, x.want) || why != x.why {
			t.Errorf("Replace(%x, %d, %d, %x) = %x, %d; want %x, %d", x.u, x.offset, x.count, x.v, got, why, x.want, x.why)
		}
	}
}

// 1.2: it is what comes of Replace that may be too long, not what goes in.
func TestReplaceLong(t *testing.T) {
	for _, x := range []struct {
		u             int
		offset, count uint32
		v, want       int
		why           api.Errno
	}{
		{api.MaxData - 1, 5, 0, 1, api.MaxData, api.OK},
		{api.MaxData, 5, 0, 1, 0, api.ErrLong},
		{api.MaxData, 5, 1, 1, api.MaxData, api.OK},
		{api.MaxData, 5, 1, 2, 0, api.ErrLong},
		{api.MaxData, api.MaxData, 4294967295, 0, api.MaxData, api.OK},
		{api.MaxData, api.MaxData, 4294967295, 1, 0, api.ErrLong},
		{api.MaxData, 0, 4294967295, api.MaxData, api.MaxData, api.OK},
		{api.MaxData, 0, 4294967295, api.MaxData + 1, 0, api.ErrLong},
		{0, 0, 0, api.MaxData, api.MaxData, api.OK},
		{0, 0, 0, api.MaxData + 1, 0, api.ErrLong},
		{api.MaxData + 1, 0, 0, 0, 0, api.ErrLong},
		{api.MaxData + 1, 0, 1, 0, api.MaxData, api.OK},
		{api.MaxData + 1, api.MaxData + 2, 0, 0, 0, api.ErrIndexSize},
		{0, 1, 0, api.MaxData + 1, 0, api.ErrIndexSize},
	} {
		got, why := units.Replace(many('a', x.u), x.offset, x.count, many('b', x.v))
		if len(got) != x.want || why != x.why {
			t.Errorf("Replace(%d units, %d, %d, %d units) = %d units, %d; want %d, %d", x.u, x.offset, x.count, x.v, len(got), why, x.want, x.why)
		}
	}
}

// 1.3: Wrap.
func TestWrap(t *testing.T) {
	for n, want := range map[int64]uint32{
		0: 0, 1: 1, -1: 4294967295, -2: 4294967294,
		1<<31 - 1: 1<<31 - 1, 1 << 31: 1 << 31, -1 << 31: 1 << 31,
		1<<32 - 1: 4294967295, 1 << 32: 0, 1<<32 + 5: 5, 3<<32 + 7: 7,
		-1 << 32: 0, -1<<32 + 1: 1, -1<<32 - 1: 4294967295,
		math.MaxInt64: 4294967295, math.MinInt64: 0, math.MinInt64 + 9: 9,
	} {
		if got := units.Wrap(n); got != want {
			t.Errorf("Wrap(%d) = %d; want %d", n, got, want)
		}
	}
}

// 1.3: Lower and Fold know the letters of ASCII alone, and leave other bytes as they are.
func TestLowerFold(t *testing.T) {
	for s, want := range map[string]string{
		"": "", "DiV": "div", "@AZ[`az{": "@az[`az{", "ÉSſ": "Ésſ", "\u212a": "\u212a", "A\xffB\xc3": "a\xffb\xc3", "A\x00B": "a\x00b",
	} {
		if got := units.Lower(s); got != want {
			t.Errorf("Lower(%q) = %q; want %q", s, got, want)
		}
	}
	for b := range 256 {
		want := byte(b)
		if 'A' <= b && b <= 'Z' {
			want += 32
		}
		if got := units.Lower(string([]byte{byte(b)})); got != string([]byte{want}) {
			t.Errorf("Lower of the byte %d = %q", b, got)
		}
	}
	for _, x := range []struct {
		s, t string
		want bool
	}{
		{"", "", true}, {"DIV", "div", true}, {"DiV", "dIv", true}, {"a", "a", true}, {"é", "é", true}, {"\xff", "\xff", true}, {"A\xff", "a\xff", true},
		{"", "a", false}, {"a", "aa", false}, {"div", "dif", false}, {"ſ", "S", false}, {"ſ", "s", false}, {"\u212a", "k", false}, {"É", "é", false},
		{"@", "`", false}, {"[", "{", false}, {"\xff", "\xfe", false}, {"\xff", "\ufffd", false}, {"\xc1", "\xe1", false},
	} {
		if units.Fold(x.s, x.t) != x.want || units.Fold(x.t, x.s) != x.want {
			t.Errorf("Fold(%q, %q) is not %t", x.s, x.t, x.want)
		}
	}
}

// 1.4: Blank.
func TestBlank(t *testing.T) {
	for b := range 256 {
		if got := units.Blank(byte(b)); got != slices.Contains([]int{9, 10, 12, 13, 32}, b) {
			t.Errorf("Blank(%d) = %t", b, got)
		}
	}
}

// 1.4: Strip, Split and Collapse take the five bytes for blank, and no other whitespace.
func TestWords(t *testing.T) {
	for _, x := range []struct {
		s, strip string
		words    []string
	}{
		{"", "", nil},
		{" ", "", nil},
		{"\t\n\f\r ", "", nil},
		{"a", "a", []string{"a"}},
		{" a  b\tc ", "a  b\tc", []string{"a", "b", "c"}},
		{"\r\na\f\fb\n", "a\f\fb", []string{"a", "b"}},
		{"ab cd", "ab cd", []string{"ab", "cd"}},
		{"a a", "a a", []string{"a", "a"}},
		{" \v ", "\v", []string{"\v"}},
		{"a\vb", "a\vb", []string{"a\vb"}},
		{" \u00a0a\u0085\u2028\u3000 ", "\u00a0a\u0085\u2028\u3000", []string{"\u00a0a\u0085\u2028\u3000"}},
		{" \xff \x85\xa0 ", "\xff \x85\xa0", []string{"\xff", "\x85\xa0"}},
		{"\x00 \x1f", "\x00 \x1f", []string{"\x00", "\x1f"}},
		{"é 😀", "é 😀", []string{"é", "😀"}},
		{"\u0120\u0109\u200a", "\u0120\u0109\u200a", []string{"\u0120\u0109\u200a"}},
	} {
		if got := units.Strip(x.s); got != x.strip {
			t.Errorf("Strip(%q) = %q; want %q", x.s, got, x.strip)
		}
		if got := units.Split(x.s); !slices.Equal(got, x.words) {
			t.Errorf("Split(%q) = %q; want %q", x.s, got, x.words)
		}
		if got := units.Collapse(x.s); got != strings.Join(x.words, " ") {
			t.Errorf("Collapse(%q) = %q", x.s, got)
		}
	}
	for b := range 256 {
		one := string([]byte{byte(b)})
		cut := strings.Contains("\t\n\f\r ", one)
		if got := units.Split("a" + one + "b"); (len(got) == 2) != cut {
			t.Errorf("Split at the byte %d: %q", b, got)
		}
		if got := units.Strip(one + "a" + one); (got == "a") != cut {
			t.Errorf("Strip of the byte %d: %q", b, got)
		}
	}
}

// 1.4: Set.
func TestSet(t *testing.T) {
	for _, x := range []struct{ l, want []string }{
		{nil, nil},
		{[]string{}, nil},
		{[]string{""}, []string{""}},
		{[]string{"", ""}, []string{""}},
		{[]string{"a", "b", "a"}, []string{"a", "b"}},
		{[]string{"b", "a", "a", "b", "c"}, []string{"b", "a", "c"}},
		{[]string{"a", "A", "a ", "a"}, []string{"a", "A", "a "}},
		{[]string{"\xff", "\ufffd", "\xfe", "\xff"}, []string{"\xff", "\ufffd", "\xfe"}},
	} {
		if got := units.Set(x.l); !slices.Equal(got, x.want) {
			t.Errorf("Set(%q) = %q; want %q", x.l, got, x.want)
		}
	}
	var l, want []string
	for i := range 5000 {
		s := strings.Repeat(string(rune('a'+i*7%26)), 1+i%50)
		l = append(l, s)
		if !slices.Contains(want, s) {
			want = append(want, s)
		}
	}
	if got := units.Set(l); !slices.Equal(got, want) {
		t.Errorf("Set of many: %d texts; want %d, in their order", len(got), len(want))
	}
}

// 1.5: units that are answered are new memory, up to their capacity.
func TestNewUnits(t *testing.T) {
	base := api.Units{'a', 'b', 'c', 'd'}
	for _, ask := range []func(api.Units) api.Units{
		func(u api.Units) api.Units { v, _ := units.Sub(u, 0, 4294967295); return v },
		func(u api.Units) api.Units { v, _ := units.Sub(u, 0, 2); return v },
		func(u api.Units) api.Units { v, _ := units.Sub(u, 1, 0); return v },
		func(u api.Units) api.Units { v, _ := units.Replace(u, 0, 0, nil); return v },
		func(u api.Units) api.Units { v, _ := units.Replace(u, 1, 1, api.Units{'x'}); return v },
		func(u api.Units) api.Units { v, _ := units.Replace(u, 2, 2, nil); return v },
		func(u api.Units) api.Units { v, _ := units.Replace(nil, 0, 0, u); return v },
		func(u api.Units) api.Units { v, _ := units.Replace(u, 0, 4, u[:2]); return v },
		func(u api.Units) api.Units { v, _ := units.Replace(u, 4, 0, u); return v },
	} {
		u := append(slices.Clone(base), 'e', 'f')[:4]
		v := ask(u)
		before := slices.Clone(v)
		if again := ask(u); !slices.Equal(again, v) {
			t.Errorf("%x, then %x", v, again)
		} else {
			clear(again[:cap(again)])
		}
		if !slices.Equal(v, before) || !slices.Equal(u[:6], append(slices.Clone(base), 'e', 'f')) {
			t.Errorf("a second answer, written over, changed %x to %x, or the argument to %x", before, v, u[:6])
		}
		clear(u[:cap(u)])
		if !slices.Equal(v, before) {
			t.Errorf("the argument, written over, changed %x to %x", before, v)
		}
	}
	one, _ := units.Of("abc")
	two, _ := units.Of("abc")
	clear(one[:cap(one)])
	if !slices.Equal(two, base[:3]) {
		t.Errorf("two answers of Of share memory: %x", two)
	}
}

// 1.5: lists of texts that are answered are new memory, too.
func TestNewTexts(t *testing.T) {
	for _, l := range [][]string{{"a", "b", "c"}, {"a", "a", "b"}, {"a"}} {
		before := slices.Clone(l)
		one, two := units.Set(l), units.Set(l)
		clear(one[:cap(one)])
		if !slices.Equal(l, before) || two[0] != "a" {
			t.Errorf("Set shares memory: %q, %q", l, two)
		}
		clear(l)
		if two[0] != "a" {
			t.Errorf("Set keeps what it was handed: %q", two)
		}
	}
	one, two := units.Split("a b c"), units.Split("a b c")
	clear(one[:cap(one)])
	if !slices.Equal(two, []string{"a", "b", "c"}) {
		t.Errorf("two answers of Split share memory: %q", two)
	}
}

// 1.6: there and back.
func TestThereAndBack(t *testing.T) {
	for first := rune(0); first <= utf8.MaxRune; first += 0x1000 {
		var s strings.Builder
		for r := first; r < first+0x1000; r++ {
			if utf8.ValidRune(r) {
				s.WriteRune(r)
			}
		}
		u, why := units.Of(s.String())
		if back, alone := units.Text(u); back != s.String() || alone || why != api.OK {
			t.Errorf("the texts from %x on: error %d, alone %t", first, why, alone)
		}
	}
	for _, u := range lists(strange, 4) {
		s, alone := units.Text(u)
		if back, why := units.Of(s); !alone && !slices.Equal(back, u) || why != api.OK {
			t.Errorf("Of of Text of %x = %x, %d", u, back, why)
		}
	}
}

// 1.7: cut.
func TestCut(t *testing.T) {
	for _, u := range lists(strange[:6], 4) {
		for k := range uint32(len(u)) + 1 {
			ahead, why := units.Sub(u, 0, k)
			behind, why2 := units.Sub(u, k, 4294967295)
			if !slices.Equal(slices.Concat(ahead, behind), u) || why != api.OK || why2 != api.OK {
				t.Fatalf("%x, cut at %d: %x, %x", u, k, ahead, behind)
			}
			for count := range uint32(6) {
				part, _ := units.Sub(u, k, count)
				if same, why := units.Replace(u, k, count, part); !slices.Equal(same, u) || why != api.OK {
					t.Fatalf("%x, with what was there from %d on: %x, %d", u, k, same, why)
				}
			}
		}
	}
}

// 1.8: words.
func TestWordsOfWords(t *testing.T) {
	for _, s := range texts([]byte(" \tA\nb\xff\v"), 5) {
		words := units.Split(s)
		if again := units.Split(units.Collapse(s)); !slices.Equal(again, words) {
			t.Fatalf("Split(Collapse(%q)) = %q; want %q", s, again, words)
		}
		if i := slices.IndexFunc(words, func(w string) bool { return w == "" || strings.ContainsAny(w, "\t\n\f\r ") }); i >= 0 {
			t.Fatalf("Split(%q) has the word %q", s, words[i])
		}
		if set := units.Set(words); !slices.Equal(units.Set(set), set) {
			t.Fatalf("Set of Set of %q", words)
		}
		if low := units.Lower(s); units.Lower(low) != low || !units.Fold(s, low) {
			t.Fatalf("Lower of Lower of %q", s)
		}
	}
}
