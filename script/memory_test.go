package script_test

import (
	"testing"

	"canopy/api"
	"canopy/sample"
	"canopy/script"
)

// P28.4: Plain answers new memory, and neither changes nor keeps what is handed in.
func TestPlainIsNew(t *testing.T) {
	for op := api.OpNone; op <= api.OpCount; op++ {
		c := full(op)
		in := sample.RoomyCommand(c)
		p := script.Plain(in)
		was := sample.CopyCommand(p)
		if !sample.SameCommand(in, c) {
			t.Errorf("Plain changes %+v to %+v", c, in)
		}
		sample.SpoilCommand(in)
		if !sample.SameCommand(p, was) {
			t.Errorf("op %d: the answer changes with what was handed in", op)
		}
		in = sample.RoomyCommand(c)
		p = script.Plain(in)
		sample.SpoilCommand(p)
		if !sample.SameCommand(in, c) || sample.SpoiltCommand(in) {
			t.Errorf("op %d: what was handed in changes with the answer", op)
		}
	}
}

// P28.4: Line, Print and Count leave what is handed in, and the room behind it, as they were.
func TestWritingLeavesAll(t *testing.T) {
	for seed := range 100 {
		s := sample.Script(sample.NewDice(seed))
		in := sample.RoomyScript(s)
		text, _ := script.Print(in)
		script.Count(in)
		for _, c := range in.Commands {
			script.Line(c)
		}
		if !sample.SameScript(in, s) {
			t.Fatalf("seed %d: what was handed in is changed", seed)
		}
		sample.SpoilScript(in)
		if again, _ := script.Print(s); again != text {
			t.Fatalf("seed %d: the text is another one", seed)
		}
	}
}

// P28.4: no list of an answer of Parse or Command is part of another one, or of another answer.
func TestReadingIsNew(t *testing.T) {
	for seed := range 200 {
		s := sample.Script(sample.NewDice(seed))
		text, _ := script.Print(s)
		first, _, _ := script.Parse(text)
		second, _, _ := script.Parse(text)
		all := append(append([][]api.Command{}, first.Programs...), first.Commands)
		var kept [][]api.Command
		for _, l := range all {
			kept = append(kept, sample.CopyScript(api.Script{Commands: l}).Commands)
		}
		for i, l := range all {
			for j := range l {
				if !sample.SameCommand(l[j], kept[i][j]) {
					t.Fatalf("seed %d: list %d changes with one ahead of it", seed, i)
				}
				sample.SpoilCommand(l[j])
			}
			sample.Fill(l, api.Command{Op: 99})
		}
		if !sample.SameScript(second, plainScript(s)) {
			t.Fatalf("seed %d: an answer changes with another one", seed)
		}
	}
	line := modelLine(full(api.OpDefine))
	c, _ := script.Command(line)
	d, _ := script.Command(line)
	sample.SpoilCommand(c)
	if !sample.SameCommand(d, modelPlain(full(api.OpDefine))) {
		t.Error("a command changes with another one")
	}
}
