package sample_test

import (
	"testing"

	"canopy/api"
	"canopy/sample"
)

// Commands and scripts are the same each time, and have each op, each field, and none of it, sooner or later.
func TestScripts(t *testing.T) {
	ops := map[api.Op]int{}
	empty, long, least, greatest := 0, 0, 0, 0
	for seed := range 300 {
		s := sample.Script(sample.NewDice(seed))
		if !sample.SameScript(s, sample.Script(sample.NewDice(seed))) {
			t.Errorf("seed %d: another script", seed)
		}
		for _, l := range append(s.Programs, s.Commands) {
			if len(l) == 0 {
				empty++
			}
			for _, c := range l {
				ops[c.Op]++
				long += len(c.Data) / 5
				if c.A == -1<<63 {
					least++
				}
				if c.A == 1<<63-1 {
					greatest++
				}
			}
		}
	}
	if len(ops) != int(api.OpCount)-1 || ops[api.OpNone] != 0 || empty == 0 || long == 0 || least == 0 || greatest == 0 {
		t.Error(len(ops), "ops;", empty, "empty lists;", long, "long ones;", least, greatest)
	}
}

// Each field counts where two commands are held against each other, but not whether a list is nil or empty.
func TestSameCommand(t *testing.T) {
	if !sample.SameCommand(api.Command{}, api.Command{Data: api.Units{}, List: []int{}, Names: []string{}}) {
		t.Error("nil and empty lists are not alike")
	}
	for i, c := range []api.Command{
		{Op: 1}, {A: 1}, {B: 1}, {C: 1}, {N: 1}, {M: 1}, {S: "a"}, {T: "a"}, {Data: api.Units{1}}, {List: []int{1}}, {Names: []string{"a"}}, {Yes: true},
	} {
		if sample.SameCommand(c, api.Command{}) || !sample.SameCommand(c, c) {
			t.Error("field", i)
		}
		s := api.Script{Programs: [][]api.Command{{c}}, Commands: []api.Command{c}, Fuel: 1}
		for j, other := range []api.Script{
			{Programs: s.Programs, Commands: s.Commands}, {Programs: s.Programs, Fuel: 1}, {Commands: s.Commands, Fuel: 1},
			{Programs: [][]api.Command{{{}}}, Commands: s.Commands, Fuel: 1}, {Programs: s.Programs, Commands: []api.Command{{}}, Fuel: 1},
		} {
			if sample.SameScript(s, other) || !sample.SameScript(s, s) {
				t.Error("field", i, "script", j)
			}
		}
	}
}

// A copy is not written over with what it is one of; what is written over is told.
func TestSpoilScript(t *testing.T) {
	c := api.Command{Op: api.OpAny, Data: api.Units{1}, List: []int{1}, Names: []string{"a"}}
	for what, made := range map[string]func(api.Command) api.Command{"copy": sample.CopyCommand, "roomy copy": sample.RoomyCommand} {
		was, other := sample.CopyCommand(c), made(c)
		sample.SpoilCommand(other)
		if !sample.SameCommand(c, was) || sample.SpoiltCommand(c) || sample.SameCommand(other, c) || !sample.SpoiltCommand(other) {
			t.Error(what, c, other)
		}
	}
	for i, one := range []api.Command{{Data: c.Data}, {List: c.List}, {Names: c.Names}} {
		one = sample.RoomyCommand(one)
		sample.SpoilCommand(one)
		one.Data, one.List, one.Names = one.Data[:0], one.List[:0], one.Names[:0]
		if !sample.SpoiltCommand(one) {
			t.Error("the room behind list", i)
		}
	}
	s := api.Script{Programs: [][]api.Command{{c}}, Commands: []api.Command{c}, Fuel: 3}
	for what, made := range map[string]func(api.Script) api.Script{"copy": sample.CopyScript, "roomy copy": sample.RoomyScript} {
		was, other := sample.CopyScript(s), made(s)
		if !sample.SameScript(other, s) {
			t.Error(what, other)
		}
		sample.SpoilScript(other)
		if !sample.SameScript(s, was) || sample.SameScript(other, s) {
			t.Error(what, s, other)
		}
	}
}
