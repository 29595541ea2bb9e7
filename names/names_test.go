package names_test

import (
	"math"
	"slices"
	"strings"
	"testing"
	"unicode/utf8"

	"canopy/api"
	"canopy/names"
)

// Spans of runes as the chapter tells them.
var (
	starts = [][2]rune{{':', ':'}, {'_', '_'}, {'A', 'Z'}, {'a', 'z'}, {0xC0, 0xD6}, {0xD8, 0xF6}, {0xF8, 0x2FF}, {0x370, 0x37D}, {0x37F, 0x1FFF}, {0x200C, 0x200D}, {0x2070, 0x218F}, {0x2C00, 0x2FEF}, {0x3001, 0xD7FF}, {0xF900, 0xFDCF}, {0xFDF0, 0xFFFD}, {0x10000, 0xEFFFF}}
	others = [][2]rune{{'-', '-'}, {'.', '.'}, {'0', '9'}, {0xB7, 0xB7}, {0x300, 0x36F}, {0x203F, 0x2040}}
	custom = [][2]rune{{'-', '-'}, {'.', '.'}, {'_', '_'}, {'0', '9'}, {'a', 'z'}, {0xB7, 0xB7}, {0xC0, 0xD6}, {0xD8, 0xF6}, {0xF8, 0x37D}, {0x37F, 0x1FFF}, {0x200C, 0x200D}, {0x203F, 0x2040}, {0x2070, 0x218F}, {0x2C00, 0x2FEF}, {0x3001, 0xD7FF}, {0xF900, 0xFDCF}, {0xFDF0, 0xFFFD}, {0x10000, 0xEFFFF}}
)

func within(spans [][2]rune, r rune) bool {
	return slices.ContainsFunc(spans, func(s [2]rune) bool { return s[0] <= r && r <= s[1] })
}

// all are all texts of up to longest of some.
func all(of []string, longest int) []string {
	texts := []string{""}
	last := texts
	for range longest {
		var next []string
		for _, s := range last {
			for _, x := range of {
				next = append(next, s+x)
			}
		}
		texts = append(texts, next...)
		last = next
	}
	return texts
}

// some are texts of which many are names of all kinds, and as many are none.
func some() []string {
	return append(all([]string{"a", "B", ":", "-", "1", "é", "\xff", " "}, 4), "xml", "xmlns", "xml:a", "xmlns:a", "a:xmlns", "a:xml", "my-box", "font-face", "\ufffd", "\ufffd:\ufffd")
}

// P2.1: Start and Part, rune by rune.
func TestRunes(t *testing.T) {
	for r := rune(-2); r <= utf8.MaxRune+2; r++ {
		start := within(starts, r)
		part := start || within(others, r)
		if names.Start(r) != start || names.Part(r) != part {
			t.Errorf("Start(%x) = %t, Part %t; want %t, %t", r, names.Start(r), names.Part(r), start, part)
		}
	}
	for _, r := range []rune{math.MinInt32, math.MinInt32 + 'a', math.MaxInt32, 0x110000 + 'a', -'a'} {
		if names.Start(r) || names.Part(r) {
			t.Errorf("Start or Part takes %d", r)
		}
	}
}

// P2.1: the first and the last rune of each span, and those beside it, in names of all kinds.
func TestRunesInNames(t *testing.T) {
	for _, s := range slices.Concat(starts, others, custom) {
		for _, r := range []rune{s[0] - 1, s[0], s[1], s[1] + 1} {
			if !utf8.ValidRune(r) {
				continue
			}
			one := string(r)
			start, part := within(starts, r), within(starts, r) || within(others, r)
			if names.Name(one) != start || names.Name("a"+one) != part || names.Name(one+"a") != start {
				t.Errorf("Name with %x", r)
			}
			if r == ':' {
				continue
			}
			if names.NC(one) != start || names.NC("a"+one) != part {
				t.Errorf("NC with %x", r)
			}
			if names.QName(one) != start || names.QName("a:"+one) != start || names.QName(one+":a") != start || names.QName("a"+one+":a"+one) != part {
				t.Errorf("QName with %x", r)
			}
		}
	}
}

// P2.1: Name, NC, QName.
func TestKinds(t *testing.T) {
	for s, want := range map[string][3]bool{
		"a": {true, true, true}, "_": {true, true, true}, "a1": {true, true, true}, "a-b.c_d": {true, true, true}, "é": {true, true, true}, "😀": {true, true, true}, "\ufffd": {true, true, true},
		"svg:rect": {true, false, true}, "é:é": {true, false, true}, "\ufffd:a": {true, false, true},
		":": {true, false, false}, "::": {true, false, false}, ":a": {true, false, false}, "a:": {true, false, false}, "a::b": {true, false, false}, "a:b:c": {true, false, false}, "a:b:": {true, false, false}, ":a:b": {true, false, false}, "a:1": {true, false, false}, "a:-b": {true, false, false},
		"": {}, "1a": {}, "-": {}, ".a": {}, "1:a": {}, "a b": {}, " a": {}, "a ": {}, "a\x00": {}, "a>": {}, "·": {}, "a×": {}, "a\uf8ff": {}, "\U000f0000": {},
		"\xff": {}, "a\xff": {}, "\xffa": {}, "a:\xff": {}, "a\xff:b": {}, "\xed\xa0\x80": {}, "a\xc3": {}, "\xc1\x81": {},
	} {
		if got := [3]bool{names.Name(s), names.NC(s), names.QName(s)}; got != want {
			t.Errorf("%q: %t; want %t", s, got, want)
		}
	}
	long := strings.Repeat("a", api.MaxName+1)
	if !names.Name(long) || !names.NC(long) || !names.QName(long+":"+long) || !names.Custom(long+"-") {
		t.Error("a name has no limit of its own")
	}
}

// P2.1: Custom.
func TestCustom(t *testing.T) {
	for s, want := range map[string]bool{
		"my-box": true, "a-": true, "a--": true, "a-1": true, "a.-_": true, "x-é": true, "aé-": true, "z-😀": true, "a-\ufffd": true, "font-face-": true, "font-facer": true, "font-fac": true, "font-face-srcs": true,
		"": false, "box": false, "a": false, "-": false, "-a": false, "My-box": false, "my-Box": false, "MY-BOX": false, "1-a": false, "é-a": false, "_-a": false, "a:b-c": false, "a-b:c": false, "a- b": false, "a-\xff": false, "\xff-a": false, "a-\u00d7": false, "a-\x00": false,
		"annotation-xml": false, "color-profile": false, "font-face": false, "font-face-src": false, "font-face-uri": false, "font-face-format": false, "font-face-name": false, "missing-glyph": false,
	} {
		if got := names.Custom(s); got != want {
			t.Errorf("Custom(%q) = %t", s, got)
		}
	}
	for r := rune(0); r <= utf8.MaxRune; r++ {
		if !utf8.ValidRune(r) {
			continue
		}
		if got := names.Custom("a-" + string(r)); got != within(custom, r) {
			t.Errorf("Custom with %x behind = %t", r, got)
		}
		if got := names.Custom(string(r) + "-a"); got != ('a' <= r && r <= 'z') {
			t.Errorf("Custom with %x ahead = %t", r, got)
		}
	}
}

// P2.1: Hosts.
func TestHosts(t *testing.T) {
	for _, s := range strings.Fields("article aside blockquote body div footer h1 h2 h3 h4 h5 h6 header main nav p section span my-box a- font-facer") {
		if !names.Hosts(s) {
			t.Errorf("Hosts(%q) = false", s)
		}
	}
	for _, s := range []string{"", "a", "h", "h0", "h7", "head", "html", "ul", "slot", "b", "pp", "div ", " div", "DIV", "Div", "svg:div", "spans", "article,aside", "My-box", "box", "1-a", "div\xff", "annotation-xml", "color-profile", "font-face", "font-face-src", "font-face-uri", "font-face-format", "font-face-name", "missing-glyph"} {
		if names.Hosts(s) {
			t.Errorf("Hosts(%q) = true", s)
		}
	}
}

// P2.2: Split.
func TestSplit(t *testing.T) {
	for s, want := range map[string][2]string{
		"svg:rect": {"svg", "rect"}, "a:b": {"a", "b"}, "é:é": {"é", "é"},
		"": {"", ""}, "a": {"", "a"}, "é": {"", "é"},
		":": {"", ":"}, ":a": {"", ":a"}, "a:": {"", "a:"}, "a::b": {"", "a::b"}, "a:b:c": {"", "a:b:c"}, "1:a": {"", "1:a"}, "a:1": {"", "a:1"}, "a:b c": {"", "a:b c"}, "a:\xff": {"", "a:\xff"}, "1": {"", "1"}, "\xff": {"", "\xff"},
	} {
		if prefix, local := names.Split(s); prefix != want[0] || local != want[1] {
			t.Errorf("Split(%q) = %q, %q", s, prefix, local)
		}
	}
	long := strings.Repeat("a", api.MaxName)
	if prefix, local := names.Split(long + ":" + long); prefix != long || local != long {
		t.Error("Split of a long name")
	}
}

// P2.2: Qualified puts together whatever it is given.
func TestQualified(t *testing.T) {
	for n, want := range map[api.Name]string{
		{}:                                      "",
		{Local: "a"}:                            "a",
		{Space: "urn:x", Local: "a"}:            "a",
		{Space: "s", Prefix: "p"}:               "p:",
		{Prefix: "p", Local: "a"}:               "p:a",
		{Local: "a:b"}:                          "a:b",
		{Prefix: "a:b", Local: ":"}:             "a:b::",
		{Prefix: "\xff", Local: "1 "}:           "\xff:1 ",
		{Space: "s", Prefix: "", Local: "\xff"}: "\xff",
	} {
		if got := names.Qualified(n); got != want {
			t.Errorf("Qualified(%q) = %q; want %q", n, got, want)
		}
	}
}

// P2.3: Validate counts bytes, ahead of all else.
func TestValidate(t *testing.T) {
	full := strings.Repeat("a", api.MaxName)
	for _, x := range []struct {
		s    string
		want api.Errno
	}{
		{"a", api.OK}, {"a:b", api.OK}, {"é", api.OK}, {"xmlns", api.OK}, {"xml:a", api.OK},
		{"", api.ErrCharacter}, {"1a", api.ErrCharacter}, {"a b", api.ErrCharacter}, {":a", api.ErrCharacter}, {"a:", api.ErrCharacter}, {"a:b:c", api.ErrCharacter}, {"\xff", api.ErrCharacter},
		{full, api.OK}, {full[1:] + "é", api.ErrLong}, {full[2:] + "é", api.OK}, {full + "a", api.ErrLong},
		{full[2:] + ":a", api.OK}, {full[1:] + ":a", api.ErrLong},
		{full[1:] + " ", api.ErrCharacter}, {full + " ", api.ErrLong}, {strings.Repeat(" ", api.MaxName+1), api.ErrLong},
		{strings.Repeat("é", api.MaxName/2), api.OK}, {strings.Repeat("é", api.MaxName/2+1), api.ErrLong},
	} {
		if got := names.Validate(x.s); got != x.want {
			t.Errorf("Validate(%d bytes, %.9q) = %d; want %d", len(x.s), x.s, got, x.want)
		}
	}
}

// P2.4: Extract.
func TestExtract(t *testing.T) {
	for _, x := range []struct {
		space, qualified string
		n                api.Name
		why              api.Errno
	}{
		{"", "a", api.Name{Local: "a"}, api.OK},
		{"urn:x", "a", api.Name{Space: "urn:x", Local: "a"}, api.OK},
		{"urn:x", "a:b", api.Name{Space: "urn:x", Prefix: "a", Local: "b"}, api.OK},
		{"\xff ", "a:b", api.Name{Space: "\xff ", Prefix: "a", Local: "b"}, api.OK},
		{api.SpaceSVG, "svg:rect", api.Name{Space: api.SpaceSVG, Prefix: "svg", Local: "rect"}, api.OK},
		{api.SpaceXML, "xml:lang", api.Name{Space: api.SpaceXML, Prefix: "xml", Local: "lang"}, api.OK},
		{api.SpaceXML, "a:lang", api.Name{Space: api.SpaceXML, Prefix: "a", Local: "lang"}, api.OK},
		{api.SpaceXML, "lang", api.Name{Space: api.SpaceXML, Local: "lang"}, api.OK},
		{"", "xml", api.Name{Local: "xml"}, api.OK},
		{"urn:x", "xml", api.Name{Space: "urn:x", Local: "xml"}, api.OK},
		{"urn:x", "a:xml", api.Name{Space: "urn:x", Prefix: "a", Local: "xml"}, api.OK},
		{"urn:x", "a:xmlns", api.Name{Space: "urn:x", Prefix: "a", Local: "xmlns"}, api.OK},
		{"urn:x", "XML:a", api.Name{Space: "urn:x", Prefix: "XML", Local: "a"}, api.OK},
		{"urn:x", "xmlnsa", api.Name{Space: "urn:x", Local: "xmlnsa"}, api.OK},
		{api.SpaceXMLNS, "xmlns", api.Name{Space: api.SpaceXMLNS, Local: "xmlns"}, api.OK},
		{api.SpaceXMLNS, "xmlns:a", api.Name{Space: api.SpaceXMLNS, Prefix: "xmlns", Local: "a"}, api.OK},
		{api.SpaceXMLNS, "xmlns:xmlns", api.Name{Space: api.SpaceXMLNS, Prefix: "xmlns", Local: "xmlns"}, api.OK},
		{"", "a:b", api.Name{}, api.ErrNamespace},
		{"", "xml:a", api.Name{}, api.ErrNamespace},
		{"urn:x", "xml:a", api.Name{}, api.ErrNamespace},
		{api.SpaceXML + "/", "xml:a", api.Name{}, api.ErrNamespace},
		{api.SpaceXMLNS, "xml:a", api.Name{}, api.ErrNamespace},
		{api.SpaceXML, "xmlns", api.Name{}, api.ErrNamespace},
		{api.SpaceXML, "xmlns:a", api.Name{}, api.ErrNamespace},
		{"", "xmlns", api.Name{}, api.ErrNamespace},
		{"", "xmlns:a", api.Name{}, api.ErrNamespace},
		{"urn:x", "xmlns", api.Name{}, api.ErrNamespace},
		{"urn:x", "xmlns:a", api.Name{}, api.ErrNamespace},
		{api.SpaceXMLNS, "a", api.Name{}, api.ErrNamespace},
		{api.SpaceXMLNS, "a:b", api.Name{}, api.ErrNamespace},
		{api.SpaceXMLNS, "a:xmlns", api.Name{}, api.ErrNamespace},
		{api.SpaceXMLNS, "XMLNS", api.Name{}, api.ErrNamespace},
		{"", "", api.Name{}, api.ErrCharacter},
		{"", "1", api.Name{}, api.ErrCharacter},
		{"", ":a", api.Name{}, api.ErrCharacter},
		{"", "a:b:c", api.Name{}, api.ErrCharacter},
		{api.SpaceXMLNS, "a b", api.Name{}, api.ErrCharacter},
		{"urn:x", "xml:", api.Name{}, api.ErrCharacter},
		{"urn:x", "a\xff", api.Name{}, api.ErrCharacter},
	} {
		if n, why := names.Extract(x.space, x.qualified); n != x.n || why != x.why {
			t.Errorf("Extract(%q, %q) = %q, %d; want %q, %d", x.space, x.qualified, n, why, x.n, x.why)
		}
	}
}

// P2.4: what is too long is told ahead of all else.
func TestExtractLong(t *testing.T) {
	full := strings.Repeat("a", api.MaxName)
	for _, x := range []struct {
		space, qualified string
		want             api.Errno
	}{
		{full, full, api.OK},
		{full, full[2:] + ":a", api.OK},
		{full + "a", "a", api.ErrLong},
		{full + "a", "1", api.ErrLong},
		{full + "a", "xmlns", api.ErrLong},
		{"", full + "a", api.ErrLong},
		{"", full[1:] + ":a", api.ErrLong},
		{"", full + " ", api.ErrLong},
		{"", "xmlns:" + full, api.ErrLong},
		{full, full[1:] + " ", api.ErrCharacter},
		{full, "xml:" + full[4:], api.ErrNamespace},
		{strings.Repeat("é", api.MaxName/2), "a", api.OK},
		{strings.Repeat("é", api.MaxName/2+1), "a", api.ErrLong},
	} {
		n, why := names.Extract(x.space, x.qualified)
		if why != x.want || why != api.OK && n != (api.Name{}) || why == api.OK && (n.Space != x.space || names.Qualified(n) != x.qualified) {
			t.Errorf("Extract(%d bytes, %d bytes): error %d; want %d", len(x.space), len(x.qualified), why, x.want)
		}
	}
}

// P2.4: Right.
func TestRight(t *testing.T) {
	full := strings.Repeat("a", api.MaxName)
	for n, want := range map[api.Name]bool{
		{Local: "a"}:                                        true,
		{Space: "urn:x", Local: "a"}:                        true,
		{Space: "urn:x", Prefix: "a", Local: "b"}:           true,
		{Space: api.SpaceXML, Prefix: "xml", Local: "lang"}: true,
		{Space: api.SpaceXMLNS, Local: "xmlns"}:             true,
		{Space: full, Local: full}:                          true,
		{Space: full, Prefix: full[2:], Local: "a"}:         true,
		{}:                             false,
		{Space: "urn:x"}:               false,
		{Prefix: "a", Local: "b"}:      false,
		{Space: "urn:x", Prefix: "a"}:  false,
		{Space: "urn:x", Local: "a:b"}: false,
		{Space: "urn:x", Prefix: "a:b", Local: "c"}:        false,
		{Space: "urn:x", Prefix: "a", Local: "b:c"}:        false,
		{Space: "urn:x", Prefix: "a", Local: "1"}:          false,
		{Space: "urn:x", Prefix: "\xff", Local: "a"}:       false,
		{Space: "urn:x", Prefix: "xml", Local: "a"}:        false,
		{Space: "urn:x", Local: "xmlns"}:                   false,
		{Space: api.SpaceXMLNS, Local: "a"}:                false,
		{Space: full + "a", Local: "a"}:                    false,
		{Local: full + "a"}:                                false,
		{Space: "urn:x", Prefix: full[1:], Local: "a"}:     false,
		{Space: "urn:x", Prefix: full + full, Local: full}: false,
	} {
		if got := names.Right(n); got != want {
			t.Errorf("Right(%.9q) = %t", n, got)
		}
	}
}

// P2.5: apart and together.
func TestApartAndTogether(t *testing.T) {
	for _, space := range []string{"", "urn:x", api.SpaceHTML, api.SpaceXML, api.SpaceXMLNS} {
		taken := 0
		for _, s := range some() {
			n, why := names.Extract(space, s)
			if why != api.OK {
				continue
			}
			taken++
			if n.Space != space || names.Qualified(n) != s || !names.Right(n) {
				t.Errorf("Extract(%q, %q) = %q: it is not the name again", space, s, n)
			}
		}
		if taken == 0 {
			t.Errorf("no name of the namespace %q", space)
		}
		for _, prefix := range []string{"", "a", "xml", "xmlns", "a:b", ":", "1", "\xff"} {
			for _, local := range []string{"", "b", "xml", "xmlns", "b:c", ":", "1", "\xff"} {
				n := api.Name{Space: space, Prefix: prefix, Local: local}
				again, why := names.Extract(space, names.Qualified(n))
				if names.Right(n) != (why == api.OK && again == n) {
					t.Errorf("Right(%q) = %t, but Extract answers %q, %d", n, names.Right(n), again, why)
				}
			}
		}
	}
}

// P2.6: kinds.
func TestKindsWithinKinds(t *testing.T) {
	for _, s := range some() {
		name, nc, qname := names.Name(s), names.NC(s), names.QName(s)
		if nc && !(name && qname) {
			t.Errorf("%q is an NC name, but no name, or no qualified one", s)
		}
		if qname && !name {
			t.Errorf("%q is a qualified name, but no name", s)
		}
		if name && !strings.Contains(s, ":") != nc {
			t.Errorf("%q: name %t, NC %t", s, name, nc)
		}
		if names.Custom(s) && !(nc && names.Hosts(s)) {
			t.Errorf("%q is a custom element's name, but no NC name, or may have no shadow root", s)
		}
		if (names.Validate(s) == api.OK) != qname {
			t.Errorf("Validate(%q) and QName part", s)
		}
	}
}

// P2.7: rune by rune.
func TestRuneByRune(t *testing.T) {
	var ncs []string
	for _, s := range some() {
		if names.NC(s) {
			ncs = append(ncs, s)
		}
		for _, r := range []rune("a:-.0·\u036f\u2040\ufffd\U000effff") {
			if names.Name(s) && !names.Name(s+string(r)+"-") {
				t.Errorf("%q is a name, but not with %q behind", s, r)
			}
		}
		for _, r := range []rune(" \u00d7\u037e\U000f0000") {
			if names.Name(s + string(r)) {
				t.Errorf("%q with %q behind is a name", s, r)
			}
		}
	}
	if len(ncs) < 100 {
		t.Fatal("too few NC names:", len(ncs))
	}
	for _, a := range ncs[:100] {
		for _, b := range ncs {
			prefix, local := names.Split(a + ":" + b)
			if !names.QName(a+":"+b) || prefix != a || local != b {
				t.Fatalf("%q and %q: %q, %q", a, b, prefix, local)
			}
		}
	}
}
