package script_test

import (
	"fmt"
	"math"
	"strings"
	"testing"

	"canopy/api"
	"canopy/sample"
	"canopy/script"
)

// wantBoth sees that a line is that of a command, and read as it, Plain.
func wantBoth(t *testing.T, c api.Command, want string) {
	t.Helper()
	if got, why := script.Line(c); got != want || why != api.OK {
		t.Errorf("Line(%+v): %q, error %d; want %q", c, got, why, want)
	}
	if got, why := script.Command(want); why != api.OK || !sample.SameCommand(got, modelPlain(c)) {
		t.Errorf("Command(%q): %+v, error %d; want %+v", want, got, why, modelPlain(c))
	}
}

// wantNone sees that texts are no commands' lines.
func wantNone(t *testing.T, lines ...string) {
	t.Helper()
	for _, line := range lines {
		if c, why := script.Command(line); why != api.ErrSyntax || !sample.SameCommand(c, api.Command{}) {
			t.Errorf("Command(%q): %+v, error %d", line, c, why)
		}
	}
}

// wantParsed sees that a text is that of a script, there and back.
func wantParsed(t *testing.T, text string, want api.Script) {
	t.Helper()
	if s, why, at := script.Parse(text); why != api.OK || at != 0 || !sample.SameScript(s, want) {
		t.Errorf("Parse(%q): %+v, error %d at %d; want %+v", text, s, why, at, want)
	}
	if got, why := script.Print(want); got != text || why != api.OK {
		t.Errorf("Print(%+v): %q, error %d; want %q", want, got, why, text)
	}
}

// wantFault sees that a text is refused at a line.
func wantFault(t *testing.T, what, text string, want api.Errno, line int) {
	t.Helper()
	if s, why, at := script.Parse(text); why != want || at != line || !sample.SameScript(s, api.Script{}) {
		t.Errorf("%s: Parse: error %d at %d, %d commands; want %d at %d", what, why, at, script.Count(s), want, line)
	}
}

// The chapter's examples.
func TestExamples(t *testing.T) {
	wantBoth(t, api.Command{Op: api.OpInsert, A: 3, B: 1}, "insert 3 1 0")
	wantBoth(t, api.Command{Op: api.OpSetAttr, A: 2, S: "id", T: "a\""}, `setattr 2 "id" "a\""`)
	wantBoth(t, api.Command{Op: api.OpSetAttr, A: 2, S: "id", T: "a\\\""}, `setattr 2 "id" "a\\\""`)
	wantBoth(t, api.Command{Op: api.OpText, Data: api.Units{97, 55357}}, `text "a\ud83d"`)
	wantParsed(t, "fuel 10\nmain\nsignal\n", api.Script{Fuel: 10, Commands: []api.Command{{Op: api.OpSignal}}})
	wantNone(t, "insert 03 1 0")
	wantFault(t, "fuel alone", "fuel 1\n", api.ErrSyntax, 2)
}

// P28.1, P28.6: each op's word, by the table; none of what is no op; Find finds it.
func TestWords(t *testing.T) {
	all := entries()
	if len(all) != int(api.OpCount) {
		t.Fatal("the table has", len(all)-1, "rows")
	}
	seen := map[string]int{}
	for n := range 256 {
		word := script.Word(api.Op(n))
		if n == 0 || n >= len(all) {
			if word != "" {
				t.Errorf("the number %d, which is no op, has the word %q", n, word)
			}
			continue
		}
		if word != all[n].word || seen[word] != 0 {
			t.Errorf("Word(%d): %q; want %q", n, word, all[n].word)
		}
		seen[word] = n
		if op, is := script.Find(word); op != api.Op(n) || !is {
			t.Errorf("Find(%q): %d, %v; want %d", word, op, is, n)
		}
	}
}

// P28.1: texts that are no words.
func TestFindOfNone(t *testing.T) {
	none := []string{"", " ", "none", "fly", "fuel", "program", "end", "main", "\x00", "\xff", strings.Repeat("dump", 1<<16)}
	for _, e := range entries()[1:] {
		none = append(none, strings.ToUpper(e.word), e.word+" ", " "+e.word, e.word+"s", e.word[len(e.word)-2:], e.word[:2], e.word+"\n", e.word+"\x00")
	}
	for _, word := range none {
		if op, is := script.Find(word); op != api.OpNone || is {
			t.Errorf("Find(%q): %d, %v", word, op, is)
		}
	}
}

// full is a command with every field set.
func full(op api.Op) api.Command {
	return api.Command{
		Op: op, A: 1, B: 2, C: 3, N: 4, M: 5, S: "s", T: "t", Data: api.Units{'d', 'e'}, List: []int{6, 7}, Names: []string{"n", "o"}, Yes: true,
	}
}

// P28.1: the fields that an op has, all others zero; of what is no op all but the Op.
func TestPlain(t *testing.T) {
	for n := range 256 {
		c := full(api.Op(n))
		got, want := script.Plain(c), modelPlain(c)
		if !sample.SameCommand(got, want) {
			t.Errorf("Plain of op %d: %+v; want %+v", n, got, want)
		}
		if !sample.SameCommand(script.Plain(api.Command{Op: c.Op}), api.Command{Op: c.Op}) {
			t.Errorf("Plain of op %d alone", n)
		}
	}
	if got := script.Plain(full(99)); !sample.SameCommand(got, api.Command{Op: 99}) {
		t.Error("of what is no op:", got)
	}
	if got := script.Plain(full(api.OpDefine)); !sample.SameCommand(got, api.Command{Op: api.OpDefine, S: "s", T: "t", List: []int{6, 7}, Names: []string{"n", "o"}}) {
		t.Error("of define:", got)
	}
	if got := script.Plain(full(api.OpSignal)); !sample.SameCommand(got, api.Command{Op: api.OpSignal}) {
		t.Error("of signal:", got)
	}
}

// Words (a command's line), P28.2: each op with every field set: which of them stand in its line, and in which order.
func TestLineOfEachOp(t *testing.T) {
	of := map[string]string{"A": "1", "B": "2", "C": "3", "N": "4", "M": "5", "S": `"s"`, "T": `"t"`, "Data": `"de"`, "List": "[6 7]", "Names": `["n" "o"]`, "Yes": "yes"}
	for op := api.OpElement; op < api.OpCount; op++ {
		e := entries()[op]
		line := e.word
		for _, name := range e.fields {
			line += " " + of[name]
		}
		wantBoth(t, full(op), line)
	}
	wantBoth(t, full(api.OpListen), `listen 1 "s" 4 5 2`)
	wantBoth(t, full(api.OpRange), `range 1 4 2 5`)
	wantBoth(t, full(api.OpDefine), `define "s" "t" [6 7] ["n" "o"]`)
	wantBoth(t, api.Command{Op: api.OpDefine}, `define "" "" [] []`)
	wantBoth(t, api.Command{Op: api.OpStep}, `step 0 no`)
}

// Words (a field's text): numbers, in each field that is one.
func TestNumbers(t *testing.T) {
	for text, n := range map[string]int{
		"0": 0, "1": 1, "-1": -1, "9": 9, "10": 10, "-10": -10, "100": 100,
		"9223372036854775807": math.MaxInt, "-9223372036854775808": math.MinInt, "9223372036854775806": math.MaxInt - 1,
	} {
		wantBoth(t, api.Command{Op: api.OpTick, N: n}, "tick "+text)
		wantBoth(t, api.Command{Op: api.OpInsert, A: n, B: n, C: n}, "insert "+text+" "+text+" "+text)
		wantBoth(t, api.Command{Op: api.OpRange, A: 1, N: n, B: 2, M: n}, "range 1 "+text+" 2 "+text)
		wantBoth(t, api.Command{Op: api.OpAny, List: []int{n}}, "any ["+text+"]")
		wantBoth(t, api.Command{Op: api.OpAny, List: []int{n, 7, n}}, "any ["+text+" 7 "+text+"]")
	}
}

// P28.2: what is no number's text.
func TestNoNumbers(t *testing.T) {
	for _, text := range []string{
		"", "-", "+", "00", "01", "03", "-0", "-00", "-01", "+1", "+0", "--1", "1-", "1_0", "0x1", "0b1", "0o7", "1e3", "1.0", "1.", "a", "1a", "½", "١", "\xff",
		"9223372036854775808", "-9223372036854775809", "18446744073709551616", "99999999999999999999", "-99999999999999999999", strings.Repeat("9", 1<<16),
		`"1"`, "[1]", "yes", "\t1", "1\t", "1\r", "1\n", "1\x00", "−1",
	} {
		wantNone(t, "tick "+text, "insert "+text+" 1 0", "insert 1 "+text+" 0", "insert 1 0 "+text, "any ["+text+" 1]", "any [1 "+text+"]")
		if text != "" {
			wantNone(t, "any ["+text+"]")
		}
	}
}

// Words (a field's text): texts, byte by byte, each byte alone and among others.
func TestTexts(t *testing.T) {
	for text, s := range map[string]string{
		`""`: "", `"a"`: "a", `" "`: " ", `"~"`: "~", `"\""`: `"`, `"\\"`: `\`, `"\\\""`: `\"`, `"\\x00"`: `\x00`, `"'"`: "'", `"[] ]"`: "[] ]", `"a b"`: "a b",
		`"\x00"`: "\x00", `"\x1f"`: "\x1f", `"\x7f"`: "\x7f", `"\x80"`: "\x80", `"\xff"`: "\xff", `"\x0a"`: "\n", `"\x09"`: "\t", `"\x0d\x0a"`: "\r\n",
		`"\xc3\xa9"`: "é", `"\xf0\x9f\x98\x80"`: "😀", `"\xef\xbf\xbd"`: "\uFFFD", `"a\x00b"`: "a\x00b", `"\x00\x00"`: "\x00\x00", `"/"`: "/", `"x00"`: "x00",
	} {
		wantBoth(t, api.Command{Op: api.OpGet, A: 1, S: s}, "get 1 "+text)
		wantBoth(t, api.Command{Op: api.OpElement, S: s, T: s}, "element "+text+" "+text)
		wantBoth(t, api.Command{Op: api.OpDefine, S: s, Names: []string{s}}, "define "+text+` "" [] [`+text+"]")
		wantBoth(t, api.Command{Op: api.OpDefine, T: s, Names: []string{s, "", s}}, `define "" `+text+" [] ["+text+` "" `+text+"]")
	}
	for b := range 256 {
		s := string([]byte{byte(b)})
		wantBoth(t, api.Command{Op: api.OpFind, A: b, S: s}, fmt.Sprintf("find %d %s", b, modelText(s)))
		wantBoth(t, api.Command{Op: api.OpFind, S: "a" + s + "b"}, "find 0 "+modelText("a"+s+"b"))
	}
}

// Words (a field's text): Quote is that of a text, however long.
func TestQuote(t *testing.T) {
	for b := range 256 {
		s := "a" + string([]byte{byte(b)})
		if got := script.Quote(s); got != modelText(s) {
			t.Errorf("%q: %s", s, got)
		}
	}
	if script.Quote("") != `""` {
		t.Error("of an empty text")
	}
	for _, n := range []int{api.MaxScript, api.MaxScript + 1, 4 * api.MaxScript} {
		if got := script.Quote(strings.Repeat("\n", n)); len(got) != 4*n+2 || strings.Count(got, `\x0a`) != n {
			t.Error(n, len(got))
		}
	}
}

// Words (a field's text): Data, unit by unit, each unit there is.
func TestData(t *testing.T) {
	for text, u := range map[string]api.Units{
		`""`: nil, `"a"`: {'a'}, `"\""`: {34}, `"\\"`: {92}, `" "`: {32}, `"~"`: {126}, `"\u001f"`: {31}, `"\u007f"`: {127}, `"\u0000"`: {0}, `"\u00ff"`: {255},
		`"\u0100"`: {256}, `"\uffff"`: {65535}, `"\ud83d\ude00"`: {0xd83d, 0xde00}, `"\udc00a"`: {0xdc00, 'a'}, `"\\u0000"`: {'\\', 'u', '0', '0', '0', '0'}, `"x41"`: {'x', '4', '1'},
	} {
		wantBoth(t, api.Command{Op: api.OpText, Data: u}, "text "+text)
		wantBoth(t, api.Command{Op: api.OpData, A: 1, N: 2, M: 3, Data: u}, "data 1 2 3 "+text)
	}
	all := make(api.Units, 1<<16)
	for i := range all {
		all[i] = uint16(i)
		c := api.Command{Op: api.OpComment, Data: all[i : i+1]}
		line, why := script.Line(c)
		if got, whyNot := script.Command(line); why != api.OK || whyNot != api.OK || line != modelLine(c) || len(got.Data) != 1 || got.Data[0] != all[i] {
			t.Fatalf("unit %d: %q, errors %d, %d", i, line, why, whyNot)
		}
	}
	c := api.Command{Op: api.OpContent, A: 1, Data: all}
	if line, why := script.Line(c); why != api.OK || len(line) != len(`content 1 ""`)+6*(1<<16)-5*95+2 {
		t.Error("all units:", len(line), why)
	} else if got, why := script.Command(line); why != api.OK || !sample.SameCommand(got, c) {
		t.Error("all units, read:", why)
	}
}

// P28.2: a byte, a unit that stands as it is has no other text; escapes with capital letters, cut short, of another sort.
func TestNoTexts(t *testing.T) {
	for _, text := range []string{
		``, `"`, `a`, `a"`, `"a`, `""a`, `"""`, `"a"b"`, `'a'`, "`a`", `"\"`, `"\`, `"\\\"`, `"\a"`, `"\n"`, `"\0"`, `"\ "`, `"\~"`, `"\'"`, `"\/"`, `"\]"`,
		"\"\x1f\"", "\"\x00\"", "\"\x7f\"", "\"\t\"", "\"\n\"", "\"\x80\"", "\"\xff\"", "\"é\"", "\"😀\"", "\"\uFFFD\"", "\"a\xc0\xa2b\"", "\"\\\xff\"", "\"\\\uFFFD\"",
	} {
		wantNone(t, "get 1 "+text, "text "+text, "element "+text+` "a"`, `element "a" `+text, `define "" "" [] [`+text+` ""]`, `define "" "" [] ["" `+text+`]`)
	}
	for _, escaped := range []string{
		`\x`, `\x0`, `\x1`, `\x1g`, `\xg1`, `\x1F`, `\xFF`, `\xfF`, `\xAa`, `\X1f`, `\x 1`, `\x-1`, `\x+1`, `\u0000`, `\u00ff`, `\ud83d`, `\U0000`,
		`\x20`, `\x22`, `\x5c`, `\x61`, `\x7e`, `\x41`, "\\x\xff", "\\x0\xff", "\\x0\uFFFD",
	} {
		wantNone(t, `get 1 "`+escaped+`"`, `get 1 "a`+escaped+`z"`, `get 1 "`+escaped, `define "" "" [] ["`+escaped+`"]`)
	}
	for _, escaped := range []string{
		`\u`, `\u0`, `\u00`, `\u001`, `\u000g`, `\ug000`, `\u00FF`, `\uD83D`, `\ud83D`, `\U001f`, `\u 001`, `\u+001`, `\x00`, `\xff`, `\x1f`, `\u{1f}`,
		`\u0020`, `\u0022`, `\u005c`, `\u0061`, `\u007e`, "\\u000\xff",
	} {
		wantNone(t, `text "`+escaped+`"`, `text "a`+escaped+`z"`, `text "`+escaped)
	}
}

// Words (a field's text): lists, empty ones and longer ones.
func TestLists(t *testing.T) {
	wantBoth(t, api.Command{Op: api.OpAny}, "any []")
	wantBoth(t, api.Command{Op: api.OpAny, List: []int{0}}, "any [0]")
	wantBoth(t, api.Command{Op: api.OpAny, List: []int{1, -2}}, "any [1 -2]")
	wantBoth(t, api.Command{Op: api.OpAssign, A: 4, List: []int{3, 3, 2, 1, 0}}, "assign 4 [3 3 2 1 0]")
	wantBoth(t, api.Command{Op: api.OpDefine, List: []int{1}, Names: []string{""}}, `define "" "" [1] [""]`)
	wantBoth(t, api.Command{Op: api.OpDefine, Names: []string{"] [", "\"", " "}}, `define "" "" [] ["] [" "\"" " "]`)
	long := api.Command{Op: api.OpAny}
	for i := range 2 * api.MaxList {
		long.List = append(long.List, i-api.MaxList)
	}
	wantBoth(t, long, modelLine(long))
	wantNone(t, "any", "any ", "any [", "any ]", "any 1", "any 1]", "any [1", "any [1 ", "any [ ]", "any [ 1]", "any [1 ]", "any [1  2]", "any [1,2]", "any [1 2", "any [[1]]", "any [1]]", "any [[1]", "any []]",
		"any [] ", "any [1] 2", "any (1)", "any {1}", `any ["1"]`, "any [yes]", "any []1", "any [1][2]", "any [1]2", "any [-]", "any [1\t2]", "any [1]\n")
	wantNone(t, `define "" "" [] [1]`, `define "" "" [""] []`, `define "" "" [] ["" ]`, `define "" "" [] [ ""]`, `define "" "" [] [""""]`, `define "" "" [] ["a""b"]`, `define "" "" [] ["a"  "b"]`,
		`define "" "" [] ["a"`, `define "" "" [] ["a" `, `define "" "" [] [""]]`, `define "" "" [][]`, `define "" "" [] [`, `define "" "" []`, `define "" "" [1] [] []`, `define "" ""[] []`, `define """" [] []`)
}

// Words (a field's text): yes or no.
func TestYes(t *testing.T) {
	wantBoth(t, api.Command{Op: api.OpClone, A: 4, Yes: true}, "clone 4 yes")
	wantBoth(t, api.Command{Op: api.OpClone, A: 4}, "clone 4 no")
	for _, text := range []string{"", "y", "n", "ye", "yess", "noo", "Yes", "NO", "true", "false", "1", "0", `"yes"`, "[yes]", "yes]", "yes no", "yes ", " yes"} {
		wantNone(t, "clone 4 "+text, "step 4 "+text, "attach 4 1 "+text)
	}
}

// Words (a command's line), P28.2: blanks and fields, too many and too few, and of another sort.
func TestNoLines(t *testing.T) {
	wantNone(t, "", " ", "\n", "fly", "1", `""`, "[]", "insert", "insert 1", "insert 1 2", "insert 1 2 3 4", "insert 1 2 3 ", "insert  1 2 3", "insert 1  2 3", " insert 1 2 3", "insert 1 2  3", "insert\t1 2 3",
		"insert1 2 3", "insert 12 3", "insert 1 2 3\n", "insert 1 2 3\r", "insert 1 2 3\x00", "Insert 1 2 3", "INSERT 1 2 3", "insert 1 2 3]", "insert] 1 2 3", "insert 1] 2 3", "insert,1,2,3",
		"signal ", " signal", "signal 1", `signal ""`, "signal]", "signal\n", "signals", "signa", "fragment ", "fragment 0", "\xffsignal", "signal\xff",
		"fuel 1", "program", "end", "main", "# signal", "signal # 1", "get 1 a", `get "a" 1`, `get 1 "a" `, `get 1  "a"`, `get 1"a"`, `get1 "a"`, `get "1" "a"`, `text 1`, `text [1]`, `text "a" "b"`, `text "a""b"`,
		`element "a"`, `element "a" "b" "c"`, `element "a""b"`, `element 1 2`, `clone yes 4`, `clone 4`, `clone 4 yes yes`, `step 4 1`, `tick "1"`, `tick`, `tick `, `any 1 2`, `assign [1] 4`, `assign 4 1`, `assign 4[1]`)
	for op := api.OpElement; op < api.OpCount; op++ {
		line := modelLine(full(op))
		wantNone(t, line+" ", " "+line, line+" 0", line+` ""`, line+" []", line+" yes", line+"-", line+"\n", line+"\r", line+"]", line+" "+line)
		for i := range line {
			if line[i] == ' ' && line[:i] != "signal" && line[:i] != "fragment" && !strings.Contains(line[:i], "[") {
				wantNone(t, line[:i], line[:i+1], line[:i]+line[i+1:], line[:i]+"\t"+line[i+1:], line[:i]+" "+line[i:])
			}
		}
	}
}

// P28.2: what is no op has no line, however long it would be.
func TestLineOfNone(t *testing.T) {
	long := strings.Repeat("a", api.MaxScript+1)
	for n := range 256 {
		if n != 0 && n < int(api.OpCount) {
			continue
		}
		c := full(api.Op(n))
		for _, s := range []string{"s", long} {
			c.S = s
			if line, why := script.Line(c); line != "" || why != api.ErrType {
				t.Errorf("Line of op %d: %q, error %d", n, line, why)
			}
		}
	}
}

// P28.1: how many commands there are, whatever they are.
func TestCount(t *testing.T) {
	some := func(n int) []api.Command { return make([]api.Command, n) }
	for _, x := range []struct {
		s    api.Script
		want int
	}{
		{api.Script{}, 0}, {api.Script{Fuel: 7}, 0}, {api.Script{Commands: some(3)}, 3}, {api.Script{Programs: [][]api.Command{nil, {}, nil}}, 0},
		{api.Script{Programs: [][]api.Command{some(2), nil, some(5)}, Commands: some(1)}, 8},
		{api.Script{Programs: make([][]api.Command, 2*api.MaxPrograms), Commands: some(api.MaxCommands + 1)}, api.MaxCommands + 1},
	} {
		if got := script.Count(x.s); got != x.want {
			t.Errorf("Count: %d; want %d", got, x.want)
		}
	}
}
