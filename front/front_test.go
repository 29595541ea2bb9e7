package front_test

import (
	"strconv"
	"strings"
	"testing"

	"canopy/api"
	"canopy/forest"
	"canopy/front"
	"canopy/sample"
	"canopy/script"
	"canopy/world"
)

const example = "fuel 9\nmain\nelement \"p\" \"\"\ninsert 2 1 0\ninsert 9 1 0\n"

func wantRun(t *testing.T, args, files []string, out, said string, code int) {
	t.Helper()
	if o, s, c := front.Run(args, files); o != out || s != said || c != code {
		t.Errorf("%q of %.200q: %.400q, %q, %d; want %.400q, %q, %d", args, files, o, s, c, out, said, code)
	}
}

// words has each op's word, by the ops' numbers, a line each.
func words() string {
	text := ""
	for op := api.OpElement; op < api.OpCount; op++ {
		text += script.Word(op) + "\n"
	}
	return text
}

// The chapter's examples, and each command of a script.
func TestCommands(t *testing.T) {
	one := []string{example}
	state := "nodes 2\nranges 0\niterators 0\nlisteners 0\nsignals 0\ndefinitions 0\nobservers 0\nfuel 6\nexhausted no\n"
	wantRun(t, []string{"run"}, one, "done element ok 2 \"\"\ndone insert ok 0 \"\"\ndone insert range 0 \"\"\n", "", 0)
	wantRun(t, []string{"state"}, one, state, "", 0)
	wantRun(t, []string{"tree", "1"}, one, "#document\n  <p>\n", "", 0)
	wantRun(t, []string{"tree", "2"}, one, "<p>\n", "", 0)
	wantRun(t, []string{"text"}, one, example, "", 0)
	wantRun(t, []string{"count"}, one, "3 0\n", "", 0)
	wantRun(t, []string{"words"}, nil, words(), "", 0)
	if !strings.HasPrefix(words(), "element\ntext\ncomment\n") || strings.Count(words(), "\n") != 44 {
		t.Error(words())
	}
	rich := "fuel 60\nprogram\nsignal\nend\nprogram\nend\nmain\n" + `element "p" ""` + "\nrange 1 0 1 0\niterate 1 1\nlisten 1 \"x\" 1 0 0\nlisten 2 \"x\" 1 0 0\nsignal\n" +
		`define "x-a" "" [1 0 0 0 0] []` + "\nobserver 1\nobserver 2\nobserver 2\nmicro 1\n"
	wantRun(t, []string{"state"}, []string{rich}, "nodes 2\nranges 1\niterators 1\nlisteners 2\nsignals 2\ndefinitions 1\nobservers 3\nfuel 47\nexhausted no\n", "", 0)
	wantRun(t, []string{"count"}, []string{rich}, "12 2\n", "", 0)
	wantRun(t, []string{"text"}, []string{rich}, rich, "", 0)
	empty := []string{"fuel 0\nmain\n"}
	wantRun(t, []string{"run"}, empty, "", "", 0)
	wantRun(t, []string{"state"}, empty, "nodes 1\nranges 0\niterators 0\nlisteners 0\nsignals 0\ndefinitions 0\nobservers 0\nfuel 0\nexhausted no\n", "", 0)
	wantRun(t, []string{"tree", "1"}, empty, "#document\n", "", 0)
	wantRun(t, []string{"count"}, empty, "0 0\n", "", 0)
	over := []string{"fuel 1\nprogram\nend\nmain\nmicro 1\nsignal\n"}
	wantRun(t, []string{"run"}, over, "done micro ok 0 \"\"\nexhausted\n", "", 0)
	wantRun(t, []string{"state"}, over, "nodes 1\nranges 0\niterators 0\nlisteners 0\nsignals 0\ndefinitions 0\nobservers 0\nfuel 0\nexhausted yes\n", "", 0)
}

// P30.2: what is refused, in its order: no command, arguments, a handle, files; ahead of what the files have in them.
func TestUsage(t *testing.T) {
	files := [][]string{nil, {example}, {"x"}, {example, example}, {"", "", ""}}
	for _, x := range []struct {
		args []string
		said string
	}{
		{nil, "command"}, {[]string{""}, "command"}, {[]string{"fly"}, "command"}, {[]string{"Run"}, "command"}, {[]string{"run "}, "command"}, {[]string{"element", "1"}, "command"}, {[]string{"1", "tree"}, "command"},
		{[]string{"words", "1"}, "arguments"}, {[]string{"text", "1"}, "arguments"}, {[]string{"count", ""}, "arguments"}, {[]string{"run", "1"}, "arguments"}, {[]string{"run", "1", "2"}, "arguments"},
		{[]string{"state", "x"}, "arguments"}, {[]string{"tree"}, "arguments"}, {[]string{"tree", "1", "2"}, "arguments"}, {[]string{"tree", "x", "2"}, "arguments"},
		{[]string{"tree", ""}, "argument 1"}, {[]string{"tree", "01"}, "argument 1"}, {[]string{"tree", "00"}, "argument 1"}, {[]string{"tree", "+1"}, "argument 1"}, {[]string{"tree", "-1"}, "argument 1"}, {[]string{"tree", "-0"}, "argument 1"},
		{[]string{"tree", "1 "}, "argument 1"}, {[]string{"tree", " 1"}, "argument 1"}, {[]string{"tree", "1.0"}, "argument 1"}, {[]string{"tree", "0x1"}, "argument 1"}, {[]string{"tree", "1_0"}, "argument 1"}, {[]string{"tree", "x"}, "argument 1"},
		{[]string{"tree", "1000000000"}, "argument 1"}, {[]string{"tree", "9223372036854775808"}, "argument 1"}, {[]string{"tree", "0123456789"}, "argument 1"}, {[]string{"tree", "１"}, "argument 1"}, {[]string{"tree", "1\x00"}, "argument 1"},
	} {
		for _, f := range files {
			wantRun(t, x.args, f, "", "usage "+x.said+"\n", 64)
		}
	}
	for _, args := range [][]string{{"text"}, {"count"}, {"run"}, {"state"}, {"tree", "1"}, {"tree", "0"}, {"tree", "999999999"}} {
		for _, f := range [][]string{nil, {}, {example, example}, {"x", "x"}, {"", "", ""}} {
			wantRun(t, args, f, "", "usage files\n", 64)
		}
	}
	for _, f := range [][]string{{example}, {""}, {example, example}} {
		wantRun(t, []string{"words"}, f, "", "usage files\n", 64)
	}
}

// Words (another error): texts that are no scripts, at their line; errors of world.Run and forest.Print, without one.
func TestErrors(t *testing.T) {
	commands := [][]string{{"text"}, {"count"}, {"run"}, {"state"}, {"tree", "1"}, {"tree", "999999999"}}
	for text, said := range map[string]string{
		"":                         "SyntaxError 1",
		"x":                        "SyntaxError 1",
		"fuel 1":                   "SyntaxError 1",
		"fuel 1\n":                 "SyntaxError 2",
		"fuel 01\nmain\n":          "SyntaxError 1",
		"fuel 1\nmain\nfly\n":      "SyntaxError 3",
		"fuel 1\nmain\nsignal":     "SyntaxError 3",
		"fuel 1\nprogram\nmain\n":  "SyntaxError 3",
		"fuel 1\nmain\ninsert 2\n": "SyntaxError 3",
		"fuel 1\n" + strings.Repeat("program\nend\n", api.MaxPrograms+1) + "main\n": "many " + strconv.Itoa(2+2*api.MaxPrograms),
		"fuel 1\nmain\n" + strings.Repeat("signal\n", api.MaxCommands+1):            "many " + strconv.Itoa(3+api.MaxCommands),
		strings.Repeat("\n", api.MaxScript+1):                                       "long",
		strings.Repeat("\n", api.MaxScript):                                         "SyntaxError 1",
	} {
		for _, args := range commands {
			wantRun(t, args, []string{text}, "", "error "+said+"\n", 1)
		}
	}
	for text, said := range map[string]string{
		"fuel 4097\nmain\n":                               "range",
		"fuel -1\nmain\n":                                 "range",
		"fuel 9223372036854775807\nmain\n":                "range",
		"fuel 1\nmain\n" + many(4097):                     "many",
		"fuel -1\nmain\n" + many(4097):                    "range",
		"fuel 1\nprogram\n" + many(4097) + "end\nmain\n":  "many",
		"fuel -1\nprogram\n" + many(4097) + "end\nmain\n": "many",
	} {
		for _, args := range commands[2:] {
			wantRun(t, args, []string{text}, "", "error "+said+"\n", 1)
		}
		wantRun(t, []string{"text"}, []string{text}, text, "", 0)
	}
	wantRun(t, []string{"run"}, []string{"fuel 0\nmain\n" + many(4096)}, "exhausted\n", "", 0)
	for _, h := range []string{"0", "3", "9", "10", "999999999", "123456789"} {
		wantRun(t, []string{"tree", h}, []string{example}, "", "error range\n", 1)
	}
}

func many(n int) string { return strings.Repeat("signal\n", n) }

// tiresome is a script whose dumps put out more and more: a fragment with many elements, dumped so often, and a text that has so many bytes more.
func tiresome(dumps, more int) string {
	text := "fuel 4096\nmain\nelement \"p\" \"\"\nfragment\ninsert 2 3 0\n"
	n, kids := 3, 1
	for kids < 512 {
		text += "clone 3 yes\ninsert " + strconv.Itoa(n+1) + " 3 0\n"
		n, kids = n+1+kids, 2*kids
	}
	return text + strings.Repeat("dump 3\n", dumps) + "setattr 2 \"a\" \"" + strings.Repeat("v", more) + "\"\nget 2 \"a\"\n"
}

// Words (the commands): MaxOut bytes that would go out, and one more.
func TestMaxOut(t *testing.T) {
	none, _, _ := front.Run([]string{"run"}, []string{tiresome(0, 0)})
	one, _, _ := front.Run([]string{"run"}, []string{tiresome(1, 0)})
	each := len(one) - len(none)
	dumps := (api.MaxOut - len(none)) / each
	left := api.MaxOut - len(none) - dumps*each
	if left > api.MaxValue {
		t.Fatal("a value has no room for what is left:", left)
	}
	out, said, code := front.Run([]string{"run"}, []string{tiresome(dumps, left)})
	if len(out) != api.MaxOut || said != "" || code != 0 {
		t.Error(len(out), said, code)
	}
	wantRun(t, []string{"run"}, []string{tiresome(dumps, left+1)}, "", "error long\n", 1)
	wantRun(t, []string{"run"}, []string{tiresome(4000, 0)}, "", "error long\n", 1)
	wantRun(t, []string{"tree", "2"}, []string{tiresome(4000, 1)}, "<p a>\n", "", 0)
}

// P30.3 to P30.6: what is said is one line at most; run has a line for each mark, the last one being exhausted just if state says so; text is the same text once more, with the same trace; and the same is answered once more.
func TestFollows(t *testing.T) {
	exhausted := 0
	for seed := range 300 {
		s := sample.Play(sample.NewDice(seed))
		for _, l := range append(s.Programs, s.Commands) {
			for i := range l {
				if script.Word(l[i].Op) == "" {
					l[i] = api.Command{Op: api.OpSignal}
				}
			}
		}
		text, why := script.Print(s)
		if why != api.OK {
			t.Fatal(seed, why)
		}
		marks, state, _ := world.Run(s)
		want := ""
		for _, m := range marks {
			want += front.Line(m) + "\n"
		}
		wantRun(t, []string{"run"}, []string{text}, want, "", 0)
		told, _, _ := front.Run([]string{"state"}, []string{text})
		over := strings.HasSuffix(told, "exhausted yes\n")
		if strings.Count(want, "\n") != len(marks) || over != strings.HasSuffix("\n"+want, "\nexhausted\n") || over != state.Exhausted {
			t.Errorf("seed %d: %s%s", seed, want, told)
		}
		if over {
			exhausted++
		}
		wantRun(t, []string{"text"}, []string{text}, text, "", 0)
		for h := range 12 {
			tree, why := forest.Print(state.Forest, h)
			said, code := "", 0
			if why != api.OK {
				said, code = "error "+front.Name(why)+"\n", 1
			}
			wantRun(t, []string{"tree", strconv.Itoa(h)}, []string{text}, tree, said, code)
		}
		wantRun(t, []string{"run"}, []string{text}, want, "", 0)
		wantRun(t, []string{"state"}, []string{text}, told, "", 0)
	}
	if exhausted < 30 {
		t.Error("too few:", exhausted)
	}
}

// P1, P30.3: any arguments and files, torn by dice: what is refused puts out nothing, and says one line.
func TestTorn(t *testing.T) {
	said := map[int]int{}
	for seed := range 6000 {
		d := sample.NewDice(seed)
		bits := [...]string{"run", "tree", "text", "count", "state", "words", "1", "0", "07", "-1", "x", "", "\n", "9"}
		var args, files []string
		for range d.Below(4) {
			args = append(args, bits[d.Below(len(bits))])
		}
		for range d.Below(3) {
			from := d.Below(len(example))
			files = append(files, example[:from]+bits[d.Below(len(bits))]+example[from+d.Below(len(example)-from)/8:])
		}
		out, line, code := front.Run(args, files)
		again, twice, same := front.Run(args, files)
		if out != again || line != twice || code != same {
			t.Fatalf("%q: another answer once more", args)
		}
		said[code]++
		if refused := code != 0; refused != (line != "") || refused && (out != "" || strings.Count(line, "\n") != 1 || !strings.HasSuffix(line, "\n")) {
			t.Fatalf("%q of %q: %q, %q, %d", args, files, out, line, code)
		}
	}
	if said[0] < 20 || said[1] < 20 || said[64] < 500 || len(said) != 3 {
		t.Error("too few:", said)
	}
}
