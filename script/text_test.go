package script_test

import (
	"math"
	"slices"
	"strconv"
	"strings"
	"testing"

	"canopy/api"
	"canopy/script"
)

var (
	aSignal = api.Command{Op: api.OpSignal}
	aTick   = api.Command{Op: api.OpTick, N: 1}
)

// Words (a script's text), P28.3: scripts with no programs, with empty ones, with some; any fuel.
func TestTextsOfScripts(t *testing.T) {
	for text, s := range map[string]api.Script{
		"fuel 0\nmain\n":                                     {},
		"fuel 10\nmain\nsignal\ntick 1\n":                    {Fuel: 10, Commands: []api.Command{aSignal, aTick}},
		"fuel 1\nprogram\nend\nmain\n":                       {Fuel: 1, Programs: [][]api.Command{nil}},
		"fuel 1\nprogram\nend\nprogram\nend\nmain\nsignal\n": {Fuel: 1, Programs: [][]api.Command{nil, {}}, Commands: []api.Command{aSignal}},
		"fuel 1\nprogram\nsignal\ntick 1\nend\nprogram\nend\nprogram\ntick 1\nend\nmain\n": {Fuel: 1, Programs: [][]api.Command{{aSignal, aTick}, nil, {aTick}}},
		"fuel -1\nmain\n":                       {Fuel: -1},
		"fuel 9223372036854775807\nmain\n":      {Fuel: math.MaxInt},
		"fuel -9223372036854775808\nmain\n":     {Fuel: math.MinInt},
		"fuel 4097\nmain\nget 1 \"end\\x0a\"\n": {Fuel: api.MaxFuel + 1, Commands: []api.Command{{Op: api.OpGet, A: 1, S: "end\n"}}},
	} {
		wantParsed(t, text, s)
	}
}

// P28.3: the first line that is not what stands there.
func TestFaults(t *testing.T) {
	for what, x := range map[string]struct {
		text string
		line int
	}{
		"nothing at all":                     {"", 1},
		"an empty line":                      {"\n", 1},
		"fuel without an LF":                 {"fuel 1", 1},
		"fuel alone":                         {"fuel 1\n", 2},
		"fuel without a number":              {"fuel\nmain\n", 1},
		"fuel with a blank":                  {"fuel \nmain\n", 1},
		"fuel with two blanks":               {"fuel  1\nmain\n", 1},
		"fuel with a blank behind":           {"fuel 1 \nmain\n", 1},
		"a blank ahead of fuel":              {" fuel 1\nmain\n", 1},
		"fuel twice at once":                 {"fuel 1 1\nmain\n", 1},
		"fuel with a nought ahead":           {"fuel 01\nmain\n", 1},
		"fuel -0":                            {"fuel -0\nmain\n", 1},
		"fuel +1":                            {"fuel +1\nmain\n", 1},
		"fuel beyond numbers":                {"fuel 9223372036854775808\nmain\n", 1},
		"fuel below numbers":                 {"fuel -9223372036854775809\nmain\n", 1},
		"fuel that is a text":                {"fuel \"1\"\nmain\n", 1},
		"fuel with ]":                        {"fuel 1]\nmain\n", 1},
		"another word for fuel":              {"Fuel 1\nmain\n", 1},
		"no fuel":                            {"main\n", 1},
		"no fuel, a program":                 {"program\nend\nmain\n", 1},
		"fuel twice":                         {"fuel 1\nfuel 1\nmain\n", 2},
		"an empty line ahead":                {"\nfuel 1\nmain\n", 1},
		"CR":                                 {"fuel 1\r\nmain\r\n", 1},
		"CR behind main":                     {"fuel 1\nmain\r\n", 2},
		"an empty line for main":             {"fuel 1\n\nmain\n", 2},
		"main without an LF":                 {"fuel 1\nmain", 2},
		"a command ahead of main":            {"fuel 1\nsignal\nmain\n", 2},
		"end ahead of main":                  {"fuel 1\nend\nmain\n", 2},
		"main with a blank":                  {"fuel 1\nmain \n", 2},
		"a blank ahead of main":              {"fuel 1\n main\n", 2},
		"Main":                               {"fuel 1\nMain\n", 2},
		"main with a number":                 {"fuel 1\nmain 1\n", 2},
		"main twice":                         {"fuel 1\nmain\nmain\n", 3},
		"main twice, behind a command":       {"fuel 1\nmain\nsignal\nmain\n", 4},
		"a program behind main":              {"fuel 1\nmain\nprogram\nend\n", 3},
		"end behind main":                    {"fuel 1\nmain\nend\n", 3},
		"fuel behind main":                   {"fuel 1\nmain\nfuel 1\n", 3},
		"an empty line behind main":          {"fuel 1\nmain\n\n", 3},
		"an empty line behind a command":     {"fuel 1\nmain\nsignal\n\n", 4},
		"an empty line between commands":     {"fuel 1\nmain\nsignal\n\nsignal\n", 4},
		"a command without an LF":            {"fuel 1\nmain\nsignal", 3},
		"the last of two without an LF":      {"fuel 1\nmain\nsignal\nsignal", 4},
		"a blank behind all":                 {"fuel 1\nmain\nsignal\n ", 4},
		"a line that is none":                {"fuel 1\nmain\nsignal\nfly\nsignal\n", 4},
		"two lines that are none":            {"fuel 1\nmain\nfly\nfly", 3},
		"a wrong field":                      {"fuel 1\nmain\ntick 01\n", 3},
		"a text over two lines":              {"fuel 1\nmain\nget 1 \"a\nb\"\n", 3},
		"program without an LF":              {"fuel 1\nprogram", 2},
		"program alone":                      {"fuel 1\nprogram\n", 3},
		"a program that is not ended":        {"fuel 1\nprogram\nsignal\n", 4},
		"a program that main ends":           {"fuel 1\nprogram\nsignal\nmain\n", 4},
		"an empty program that main ends":    {"fuel 1\nprogram\nmain\n", 3},
		"a program within a program":         {"fuel 1\nprogram\nprogram\nend\nend\nmain\n", 3},
		"end without an LF":                  {"fuel 1\nprogram\nend", 3},
		"end behind a command without an LF": {"fuel 1\nprogram\nsignal\nend", 4},
		"no main":                            {"fuel 1\nprogram\nend\n", 4},
		"no main behind two programs":        {"fuel 1\nprogram\nend\nprogram\nsignal\nend\n", 7},
		"end twice":                          {"fuel 1\nprogram\nend\nend\nmain\n", 4},
		"a command between programs":         {"fuel 1\nprogram\nend\nsignal\nmain\n", 4},
		"an empty line in a program":         {"fuel 1\nprogram\n\nend\nmain\n", 3},
		"an empty line between programs":     {"fuel 1\nprogram\nend\n\nmain\n", 4},
		"program with a name":                {"fuel 1\nprogram 1\nend\nmain\n", 2},
		"end with a blank":                   {"fuel 1\nprogram\nend \nmain\n", 3},
		"a blank ahead of end":               {"fuel 1\nprogram\n end\nmain\n", 3},
		"ends":                               {"fuel 1\nprogram\nends\nmain\n", 3},
		"fuel in a program":                  {"fuel 1\nprogram\nfuel 1\nend\nmain\n", 3},
		"a wrong line in a program":          {"fuel 1\nprogram\nsignal\nfly\nend\nmain\n", 4},
		"a wrong line and no end":            {"fuel 1\nprogram\nfly\n", 3},
		"bytes that are no runes":            {"fuel 1\nmain\n\xff\n", 3},
		"nought":                             {"\x00", 1},
		"a mark of byte order":               {"\uFEFFfuel 1\nmain\n", 1},
	} {
		wantFault(t, what, x.text, api.ErrSyntax, x.line)
	}
}

// many is a script with so many programs, and with commands in one of them (the last), and in main.
func many(programs, within, commands int) api.Script {
	s := api.Script{Fuel: 1, Programs: make([][]api.Command, programs), Commands: slices.Repeat([]api.Command{aSignal}, commands)}
	if within > 0 {
		s.Programs[programs-1] = slices.Repeat([]api.Command{aTick}, within)
	}
	return s
}

// P28.3: MaxPrograms and MaxCommands are let in.
func TestAsManyAsMayBe(t *testing.T) {
	for _, s := range []api.Script{
		many(api.MaxPrograms, 0, 0), many(api.MaxPrograms, 3, 2), many(0, 0, api.MaxCommands), many(1, api.MaxCommands, 0), many(2, api.MaxCommands-1, 1), many(api.MaxPrograms, 1, api.MaxCommands-1),
	} {
		wantParsed(t, modelPrint(s), s)
	}
}

// P28.3: Print of too many, ahead of what is no op, and of what is too long.
func TestPrintOfTooMany(t *testing.T) {
	for what, s := range map[string]api.Script{
		"programs":              many(api.MaxPrograms+1, 0, 0),
		"commands in main":      many(0, 0, api.MaxCommands+1),
		"commands in a program": many(1, api.MaxCommands+1, 0),
		"commands in both":      many(2, api.MaxCommands, 1),
		"of both":               many(api.MaxPrograms+1, api.MaxCommands, 1),
	} {
		long := script0(s, api.Command{Op: api.OpGet, S: strings.Repeat("a", api.MaxScript)})
		for _, s := range []api.Script{s, script0(s, api.Command{}), script0(s, api.Command{Op: api.OpCount}), long} {
			if text, why := script.Print(s); text != "" || why != api.ErrMany {
				t.Errorf("%s: %d bytes, error %d", what, len(text), why)
			}
		}
	}
}

// script0 is a script whose first command, in main, if there is one there, or else in its last program, is another one.
func script0(s api.Script, c api.Command) api.Script {
	s.Commands, s.Programs = slices.Clone(s.Commands), slices.Clone(s.Programs)
	if last := len(s.Programs) - 1; len(s.Commands) > 0 {
		s.Commands[0] = c
	} else if len(s.Programs[last]) > 0 {
		s.Programs[last] = slices.Clone(s.Programs[last])
		s.Programs[last][0] = c
	}
	return s
}

// P28.3: Print of what is no op, wherever it stands, ahead of what is too long.
func TestPrintOfNoOp(t *testing.T) {
	long := api.Command{Op: api.OpGet, S: strings.Repeat("a", api.MaxScript)}
	for _, op := range []api.Op{api.OpNone, api.OpCount, 99, 255} {
		none := full(op)
		for i, s := range []api.Script{
			{Commands: []api.Command{none}}, {Commands: []api.Command{aSignal, aTick, none}}, {Programs: [][]api.Command{{none}}}, {Programs: [][]api.Command{nil, {aSignal, none}}, Commands: []api.Command{aSignal}},
			{Commands: []api.Command{long, none}}, {Commands: []api.Command{none, long}}, {Programs: [][]api.Command{{long}, {long}}, Commands: []api.Command{none}}, {Programs: [][]api.Command{{none}}, Commands: []api.Command{long}},
		} {
			if text, why := script.Print(s); text != "" || why != api.ErrType {
				t.Errorf("op %d, script %d: %q, error %d", op, i, text, why)
			}
		}
	}
}

// P28.3: Parse of too many: the line of the first one above, if that line is one.
func TestParseOfTooMany(t *testing.T) {
	programs := "fuel 1\n" + strings.Repeat("program\nend\n", api.MaxPrograms)
	last := 1 + 2*api.MaxPrograms
	wantFault(t, "a program more", programs+"program\nend\nmain\n", api.ErrMany, last+1)
	wantFault(t, "a program more, not ended", programs+"program\n", api.ErrMany, last+1)
	wantFault(t, "a program more, a wrong line in it", programs+"program\nfly\n", api.ErrMany, last+1)
	wantFault(t, "a program more, without an LF", programs+"program", api.ErrSyntax, last+1)
	wantFault(t, "a line that is no program's", programs+"programs\nend\nmain\n", api.ErrSyntax, last+1)
	wantFault(t, "nothing behind", programs, api.ErrSyntax, last+1)
	wantFault(t, "a command behind", programs+"signal\nmain\n", api.ErrSyntax, last+1)
	wantFault(t, "a wrong line ahead", strings.Replace(programs, "end", "ends", 1)+"program\nend\nmain\n", api.ErrSyntax, 3)

	signals := strings.Repeat("signal\n", api.MaxCommands)
	for what, x := range map[string]struct {
		head string
		line int
	}{
		"in main":           {"fuel 1\nmain\n" + signals, 2 + api.MaxCommands},
		"in a program":      {"fuel 1\nprogram\n" + signals, 2 + api.MaxCommands},
		"in main behind it": {"fuel 1\nprogram\n" + signals + "end\nmain\n", 4 + api.MaxCommands},
		"in a second one":   {"fuel 1\nprogram\n" + signals + "end\nprogram\n", 4 + api.MaxCommands},
	} {
		wantFault(t, what+", a command more", x.head+"signal\n", api.ErrMany, x.line+1)
		wantFault(t, what+", and further lines that are none", x.head+"signal\nfly\n", api.ErrMany, x.line+1)
		wantFault(t, what+", and no end", x.head+"tick 1\nsignal", api.ErrMany, x.line+1)
		wantFault(t, what+", a line that is none", x.head+"fly\n", api.ErrSyntax, x.line+1)
		wantFault(t, what+", a wrong field", x.head+"tick 01\n", api.ErrSyntax, x.line+1)
		wantFault(t, what+", without an LF", x.head+"signal", api.ErrSyntax, x.line+1)
		wantFault(t, what+", an empty line", x.head+"\n", api.ErrSyntax, x.line+1)
		wantFault(t, what+", a wrong line ahead", strings.Replace(x.head, "signal", "signals", 1)+"signal\n", api.ErrSyntax, 3)
	}
	wantFault(t, "programs, as many as may be, and too many commands", programs+"main\n"+signals+"signal\n", api.ErrMany, last+1+api.MaxCommands+1)
	wantFault(t, "a program more ahead of too many commands", programs+"program\n"+signals+"signal\nend\nmain\n", api.ErrMany, last+1)
}

// fitting is the text or the data with which a line has so many bytes.
func fitting(head string, size int) string { return strings.Repeat("a", size-len(head)-1) }

// P28.2: lines of MaxScript bytes, and of one more.
func TestLongLines(t *testing.T) {
	for _, size := range []int{api.MaxScript - 1, api.MaxScript, api.MaxScript + 1} {
		get := fitting(`get 1 "`, size)
		text := []uint16{}
		for _, b := range []byte(fitting(`text "`, size)) {
			text = append(text, uint16(b))
		}
		escapes := strings.Repeat("\xff", (size-len(`get 1 ""`))/4)
		escapes += strings.Repeat("a", size-len(`get 1 ""`)-4*len(escapes))
		list := slices.Repeat([]int{7}, (size-len("any []")+1)/2)
		if odd := (size - len("any []") + 1) % 2; odd == 1 {
			list[0] = 77
		}
		names := slices.Repeat([]string{""}, (size-len(`define "" "" [] []`)+1)/3)
		names[0] = strings.Repeat("a", (size-len(`define "" "" [] []`)+1)%3)
		for i, c := range []api.Command{
			{Op: api.OpGet, A: 1, S: get}, {Op: api.OpText, Data: text}, {Op: api.OpGet, A: 1, S: escapes}, {Op: api.OpAny, List: list}, {Op: api.OpDefine, Names: names},
		} {
			wantLong(t, i, c, size)
		}
	}
}

// wantLong sees that a command's line of so many bytes is written and read, if it is not too long.
func wantLong(t *testing.T, i int, c api.Command, size int) {
	t.Helper()
	line, why := script.Line(c)
	if size > api.MaxScript {
		if line != "" || why != api.ErrLong {
			t.Errorf("command %d, %d bytes: %d, error %d", i, size, len(line), why)
		}
		return
	}
	if why != api.OK || len(line) != size {
		t.Errorf("command %d: %d bytes, error %d; want %d", i, len(line), why, size)
	}
	if got, why := script.Command(line); why != api.OK || len(got.S) != len(c.S) || len(got.Data) != len(c.Data) || len(got.List) != len(c.List) || len(got.Names) != len(c.Names) {
		t.Errorf("command %d, %d bytes, read: error %d", i, size, why)
	}
}

// P28.2: Command of more than MaxScript bytes, a line or not.
func TestLongCommands(t *testing.T) {
	for _, head := range []string{`get 1 "`, `fly "`, ``, "\xff", `any [`} {
		line := head + fitting(head, api.MaxScript+1) + `"`
		if c, why := script.Command(line); why != api.ErrLong || c.Op != api.OpNone {
			t.Errorf("%q: error %d", head, why)
		}
		want := api.ErrSyntax
		if line = line[:len(line)-2] + `"`; head == `get 1 "` {
			want = api.OK
		}
		if _, why := script.Command(line); why != want || len(line) != api.MaxScript {
			t.Errorf("%q, of %d bytes: error %d", head, len(line), why)
		}
	}
}

// P28.3: scripts' texts of MaxScript bytes, and of one more.
func TestLongScripts(t *testing.T) {
	for _, within := range []bool{false, true} {
		head := "fuel 1\nmain\nsignal\n" + `get 1 "`
		if within {
			head = "fuel 1\nprogram\nsignal\nend\nmain\n" + `get 1 "`
		}
		made := func(size int) api.Script {
			get := api.Command{Op: api.OpGet, A: 1, S: fitting(head, size-1)}
			if within {
				return api.Script{Fuel: 1, Programs: [][]api.Command{{aSignal}}, Commands: []api.Command{get}}
			}
			return api.Script{Fuel: 1, Commands: []api.Command{aSignal, get}}
		}
		text, why := script.Print(made(api.MaxScript))
		if why != api.OK || len(text) != api.MaxScript {
			t.Fatalf("Print: %d bytes, error %d", len(text), why)
		}
		if s, why, at := script.Parse(text); why != api.OK || at != 0 || script.Count(s) != 2 || len(s.Commands[len(s.Commands)-1].S) != len(fitting(head, api.MaxScript-1)) {
			t.Errorf("Parse: error %d at %d", why, at)
		}
		if text, why := script.Print(made(api.MaxScript + 1)); text != "" || why != api.ErrLong {
			t.Errorf("Print of one more: %d bytes, error %d", len(text), why)
		}
		wantFault(t, "one more", strings.Replace(text, "aa", "aaa", 1), api.ErrLong, 0)
		wantFault(t, "one less, without an LF", text[:len(text)-1], api.ErrSyntax, strings.Count(text, "\n"))
	}
	for _, b := range []string{"\n", "a", "\xff", "signal\n"} {
		text := strings.Repeat(b, api.MaxScript/len(b)+1)
		wantFault(t, "too long, and none", text, api.ErrLong, 0)
		wantFault(t, "none", text[:api.MaxScript], api.ErrSyntax, 1)
	}
	if text, why := script.Print(api.Script{Fuel: 1, Commands: slices.Repeat([]api.Command{{Op: api.OpGet, S: strings.Repeat("a", 200)}}, api.MaxCommands)}); text != "" || why != api.ErrLong {
		t.Error("many that are too long together:", len(text), why)
	}
}

// P1: what is far too long is refused without being written.
func TestFarTooLong(t *testing.T) {
	s := strings.Repeat("\xff", 1<<24)
	c := api.Command{Op: api.OpDefine, S: s, T: s, List: make([]int, 1<<22), Names: slices.Repeat([]string{s}, 1<<12)}
	if line, why := script.Line(c); line != "" || why != api.ErrLong {
		t.Error("Line:", len(line), why)
	}
	if text, why := script.Print(api.Script{Commands: slices.Repeat([]api.Command{c}, api.MaxCommands)}); text != "" || why != api.ErrLong {
		t.Error("Print:", len(text), why)
	}
	if line, why := script.Line(api.Command{Op: api.OpText, Data: make(api.Units, 1<<24)}); line != "" || why != api.ErrLong {
		t.Error("Line of units:", len(line), why)
	}
	if _, why := script.Command("tick " + strconv.Itoa(1) + strings.Repeat("0", api.MaxScript-6)); why != api.ErrSyntax {
		t.Error("a number of MaxScript bytes:", why)
	}
}
