package script_test

import (
	"strings"
	"testing"

	"canopy/api"
	"canopy/sample"
	"canopy/script"
)

// plainScript has all commands Plain, by the model.
func plainScript(s api.Script) api.Script {
	p := sample.CopyScript(s)
	for _, l := range append(p.Programs, p.Commands) {
		for i, c := range l {
			l[i] = modelPlain(c)
		}
	}
	return p
}

// P28.5, P28.7: commands picked by dice, there and back, against the words.
func TestCommandsByDice(t *testing.T) {
	for seed := range 400 {
		d := sample.NewDice(seed)
		for op := api.OpElement; op < api.OpCount; op++ {
			c := sample.Command(d, op)
			p := script.Plain(c)
			if !sample.SameCommand(p, modelPlain(c)) || !sample.SameCommand(script.Plain(p), p) {
				t.Fatalf("Plain(%+v): %+v", c, p)
			}
			wantBoth(t, c, modelLine(c))
			if line, why := script.Line(p); line != modelLine(c) || why != api.OK {
				t.Fatalf("Line(Plain(%+v)): %q, error %d", c, line, why)
			}
		}
	}
}

// P28.5, P28.8: scripts picked by dice, there and back, against the words.
func TestScriptsByDice(t *testing.T) {
	for seed := range 1000 {
		s := sample.Script(sample.NewDice(seed))
		text, why := script.Print(s)
		if text != modelPrint(s) || why != api.OK {
			t.Fatalf("seed %d: Print: %q, error %d; want %q", seed, text, why, modelPrint(s))
		}
		if n := script.Count(s) + 2*len(s.Programs) + 2; strings.Count(text, "\n") != n {
			t.Errorf("seed %d: %d lines; want %d", seed, strings.Count(text, "\n"), n)
		}
		back, why, at := script.Parse(text)
		if why != api.OK || at != 0 || !sample.SameScript(back, plainScript(s)) {
			t.Fatalf("seed %d: Parse(%q): %+v, error %d at %d", seed, text, back, why, at)
		}
		if again, why := script.Print(back); again != text || why != api.OK {
			t.Errorf("seed %d: Print once more: %q, error %d", seed, again, why)
		}
	}
}

// torn is a text with something taken out, put in, or exchanged, once or twice.
func torn(d *sample.Dice, text string) string {
	bits := [...]string{" ", "\"", "\\", "0", "1", "-", "[", "]", "a", "f", "A", "x", "u", "\n", "\x7f", "\xff", "é", "\\x", "\\u", "\\xff", "\\u00ff", "\\x61", "yes", "end\n", "main\n", "program\n", "signal\n", "\r", "9223372036854775807"}
	for range 1 + d.Below(2) {
		from := d.Below(len(text) + 1)
		to := min(from+d.Below(3), len(text))
		bit := ""
		if d.Below(3) > 0 {
			bit = bits[d.Below(len(bits))]
		}
		text = text[:from] + bit + text[to:]
	}
	return text
}

// P28.2, P28.5: lines that are torn by dice: just those are taken that have the form of one, and each is the line of what is read.
func TestTornLines(t *testing.T) {
	f := newForms()
	taken, refused := 0, 0
	for seed := range 60000 {
		d := sample.NewDice(seed)
		line := torn(d, modelLine(sample.Command(d, 1+api.Op(seed%(int(api.OpCount)-1)))))
		c, why := script.Command(line)
		if f.isLine(line) {
			taken++
			if back, _ := script.Line(c); why != api.OK || back != line || !sample.SameCommand(script.Plain(c), c) {
				t.Fatalf("Command(%q): error %d, its line %q", line, why, back)
			}
			continue
		}
		refused++
		if why != api.ErrSyntax || !sample.SameCommand(c, api.Command{}) {
			t.Fatalf("Command(%q): %+v, error %d", line, c, why)
		}
	}
	if taken < 1000 || refused < 1000 {
		t.Error(taken, "taken,", refused, "refused")
	}
}

// P28.3, P28.5: scripts' texts that are torn by dice: the same of them, and the line at which one is none.
func TestTornTexts(t *testing.T) {
	f := newForms()
	taken, refused := 0, map[int]int{}
	for seed := range 20000 {
		d := sample.NewDice(seed)
		text := torn(d, modelPrint(sample.Script(d)))
		want, line := f.fault(text)
		s, why, at := script.Parse(text)
		if why != want || at != line {
			t.Fatalf("Parse(%q): error %d at %d; want %d at %d", text, why, at, want, line)
		}
		if why != api.OK {
			refused[at]++
			continue
		}
		taken++
		if back, _ := script.Print(s); back != text || !sample.SameScript(s, plainScript(s)) {
			t.Fatalf("Parse(%q): its text %q", text, back)
		}
	}
	if taken < 500 || len(refused) < 10 {
		t.Error(taken, "taken,", refused, "refused")
	}
}

// P28.2: every cut of a line ahead of its end, and every line with one byte exchanged, by the form of one.
func TestEachByte(t *testing.T) {
	f := newForms()
	for _, line := range []string{`setattr -12 "a\"\\" "\xff b"`, `data 1 0 -3 "a\ud83d\""`, `define "x" "" [1 -2] ["a" "\x00"]`, `attach 1 2 yes`, "signal"} {
		for i := range line {
			for b := range 256 {
				wantForm(t, f, line[:i]+string([]byte{byte(b)})+line[i+1:])
				wantForm(t, f, line[:i]+string([]byte{byte(b)})+line[i:])
			}
			wantForm(t, f, line[:i])
			wantForm(t, f, line[i:])
		}
	}
}

func wantForm(t *testing.T, f forms, line string) {
	t.Helper()
	c, why := script.Command(line)
	if is := why == api.OK; is != f.isLine(line) {
		t.Fatalf("Command(%q): error %d", line, why)
	}
	if back, _ := script.Line(c); why == api.OK && back != line {
		t.Fatalf("Command(%q): its line %q", line, back)
	}
}

// P3: the same is answered once more.
func TestOnceMore(t *testing.T) {
	for seed := range 50 {
		s := sample.Script(sample.NewDice(seed))
		text, _ := script.Print(s)
		for range 5 {
			if again, _ := script.Print(s); again != text {
				t.Fatalf("seed %d: %q, then %q", seed, text, again)
			}
		}
	}
}
