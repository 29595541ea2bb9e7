package world_test

import (
	"slices"
	"testing"

	"canopy/api"
	"canopy/sample"
	"canopy/world"
)

// full is a world in which each list of its state has something in it, its fuel being at its end within a program.
func full(t *testing.T) (*world.World, api.Script) {
	t.Helper()
	s := written(t, 60, `element "div" ""; insert 2 1 0; attach 2 1 yes; element "slot" ""; insert 4 3 0; text "abc"; insert 5 2 0; setattr 2 "id" "a"; `+
		`assign 4 [5]; range 5 1 5 2; iterate 1 4294967295; signal; any [1]; listen 2 "x" 1 1 1; define "x-a" "" [1 2 0 0 0] ["id" "b"]; element "x-a" ""; `+
		`observer 2; observe 1 1 63; micro 2`,
		"", `data 5 0 1 "zz"; insert 6 2 0; setattr 6 "id" "b"; remove 6 2; micro 2`)
	w := worldOf(t, s)
	for _, c := range s.Commands {
		w.Do(c)
	}
	return w, s
}

// 29.4: State, Marks and Do answer new memory, in all lists; what is written over in an answer is seen nowhere.
func TestAnswersAreNew(t *testing.T) {
	w, _ := full(t)
	f := w.Fork()
	s := w.State()
	for what, empty := range map[string]bool{
		"Hand": len(s.Hand) == 0, "Ranges": len(s.Ranges) == 0, "Iterators": len(s.Iterators) == 0, "Listeners": len(s.Listeners.List) == 0, "Signals": len(s.Signals) < 2,
		"Definitions": len(s.Registry.Definitions) == 0, "Elements": len(s.Registry.Elements) == 0, "Regs": len(s.Watch.Regs) == 0, "Queues": len(s.Watch.Queues[0]) < 3, "Programs": len(s.Programs) == 0,
	} {
		if empty {
			t.Error("there is nothing in", what)
		}
	}
	was, marks := sample.CopyState(s), w.Marks()
	if sample.Partly(w.State()) {
		t.Error("two lists of a state are one")
	}
	sample.SpoilState(s)
	told := w.Marks()
	sample.Fill(told, api.Mark{Kind: 99})
	for _, x := range []*world.World{w, f, w.Fork(), f.Fork()} {
		if !sample.SameState(x.State(), was) || !slices.Equal(x.Marks(), marks) {
			t.Error("what there is changes with an answer")
		}
	}
	v := worldOf(t, api.Script{Fuel: 9})
	l, _ := v.Do(api.Command{Op: api.OpSignal})
	sample.Fill(l, api.Mark{Kind: 99})
	if spelled(v.Marks()) != "signal=1" {
		t.Error("marks change with those that Do answered")
	}
}

// 29.4: New, Do and Run neither change nor keep what is handed in.
func TestHandedIn(t *testing.T) {
	for seed := range 100 {
		s := sample.Play(sample.NewDice(seed))
		marks, state, why := world.Run(s)
		fine(t, why)
		in := sample.RoomyScript(s)
		l, x, why := world.Run(in)
		fine(t, why)
		if !sample.SameScript(in, s) {
			t.Fatalf("seed %d: Run changes what is handed in", seed)
		}
		sample.SpoilScript(in)
		if !slices.Equal(l, marks) || !sample.SameState(x, state) {
			t.Fatalf("seed %d: answers change with what was handed in", seed)
		}
		in = sample.RoomyScript(s)
		w := worldOf(t, in)
		for _, p := range in.Programs {
			for _, c := range p {
				sample.SpoilCommand(c)
			}
			sample.Fill(p, api.Command{Op: 99})
		}
		sample.Fill(in.Programs, nil)
		for _, c := range in.Commands {
			w.Do(c)
			sample.SpoilCommand(c)
		}
		if !slices.Equal(w.Marks(), marks) || !sample.SameState(w.State(), state) {
			t.Fatalf("seed %d: what is handed in is kept", seed)
		}
	}
}

// Do keeps no list of a command, of each op that has some.
func TestCommandsAreNotKept(t *testing.T) {
	w, s := full(t)
	v := worldOf(t, s)
	for _, c := range s.Commands {
		in := sample.RoomyCommand(c)
		v.Do(in)
		if !sample.SameCommand(in, c) || sample.SpoiltCommand(in) {
			t.Errorf("Do changes %+v", in)
		}
		sample.SpoilCommand(in)
	}
	if !sample.SameState(v.State(), w.State()) {
		t.Error("what there is changes with commands")
	}
	state := v.State()
	sample.SpoilState(state)
	if l, _, _ := world.Run(s); !slices.Equal(l, v.Marks()) {
		t.Error("programs change with a state")
	}
}
