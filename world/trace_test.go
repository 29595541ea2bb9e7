package world_test

import (
	"slices"
	"strconv"
	"strings"
	"testing"

	"canopy/api"
	"canopy/sample"
	"canopy/script"
	"canopy/world"
)

// commands reads some, with ; between.
func commands(t *testing.T, text string) []api.Command {
	t.Helper()
	var l []api.Command
	for _, line := range strings.Split(text, ";") {
		if line = strings.TrimSpace(line); line == "" {
			continue
		}
		c, why := script.Command(line)
		if why != api.OK {
			t.Fatalf("%q is no command", line)
		}
		l = append(l, c)
	}
	return l
}

// written is a script of commands and programs.
func written(t *testing.T, fuel int, main string, programs ...string) api.Script {
	t.Helper()
	s := api.Script{Fuel: fuel, Commands: commands(t, main)}
	for _, p := range programs {
		s.Programs = append(s.Programs, commands(t, p))
	}
	return s
}

// begun is a world of programs, with much fuel, in which commands were done.
func begun(t *testing.T, main string, programs ...string) *world.World {
	t.Helper()
	s := written(t, api.MaxFuel, main, programs...)
	w, why := world.New(s.Programs, s.Fuel)
	fine(t, why)
	for _, c := range s.Commands {
		l, why := w.Do(c)
		if top := outside(l); why != api.OK || len(top) != 1 || top[0].Why != api.OK {
			t.Fatalf("%s: %s, error %d", main, spelled(l), why)
		}
	}
	return w
}

// outside are the marks of commands that are in no program, none of which has too many within it.
func outside(l []api.Mark) []api.Mark {
	var top []api.Mark
	deep := 0
	for _, m := range l {
		switch m.Kind {
		case api.MarkEnter:
			deep++
		case api.MarkLeave:
			deep--
		case api.MarkDone:
			if deep == 0 {
				top = append(top, m)
			}
		}
	}
	return top
}

func fine(t *testing.T, why api.Errno) {
	t.Helper()
	if why != api.OK {
		t.Fatal("error", why)
	}
}

// spelled is a trace in few signs: of a command its word, = and its Value, its Text, ! and its error; of a program > or <, its number, why it is called, of what, with what; . where there is no fuel.
func spelled(l []api.Mark) string {
	var all []string
	for _, m := range l {
		all = append(all, spelledMark(m))
	}
	return strings.Join(all, "; ")
}

func spelledMark(m api.Mark) string {
	word := script.Word(m.Op)
	number := func(sign string, n int) {
		if n != 0 {
			word += sign + strconv.Itoa(n)
		}
	}
	switch m.Kind {
	case api.MarkDone:
		if word == "" {
			word = "?"
		}
		number("=", m.Value)
		if m.Text != "" {
			word += strconv.Quote(m.Text)
		}
	case api.MarkEnter:
		because := []string{"?", "event", "records", "micro", "task", "construct", "connected", "disconnected", "adopted", "changed"}[m.Because]
		word = ">" + strconv.Itoa(m.Program) + " " + because + " " + strconv.Itoa(m.Node) + " " + strconv.Itoa(m.Value)
	case api.MarkLeave:
		word = "<" + strconv.Itoa(m.Program)
	case api.MarkExhausted:
		word = "."
	default:
		word = "??"
	}
	if m.Why != api.OK {
		word += "!" + errorName(m.Why)
	}
	return word
}

func errorName(why api.Errno) string {
	names := map[api.Errno]string{
		api.ErrRange: "range", api.ErrMany: "many", api.ErrLong: "long", api.ErrHierarchy: "hierarchy", api.ErrNotFound: "found",
		api.ErrCharacter: "character", api.ErrIndexSize: "index", api.ErrState: "state", api.ErrUnsupported: "unsupported",
		api.ErrSyntax: "syntax", api.ErrType: "type",
	}
	return names[why]
}

// wantTrace sees what a script with much fuel tells, by Run and by Do.
func wantTrace(t *testing.T, what, want, main string, programs ...string) api.State {
	t.Helper()
	return wantRun(t, what, want, written(t, 400, main, programs...))
}

func wantRun(t *testing.T, what, want string, s api.Script) api.State {
	t.Helper()
	marks, state, why := world.Run(s)
	if got := spelled(marks); got != want || why != api.OK {
		t.Errorf("%s: error %d,\n%s; want\n%s", what, why, got, want)
	}
	if m := modelRun(s); !slices.Equal(m.marks, marks) || !sample.SameState(m.s, state) {
		t.Errorf("%s: the words have it otherwise:\n%s", what, spelled(m.marks))
	}
	return state
}

// The chapter's examples.
func TestExamples(t *testing.T) {
	wantTrace(t, "1", "element=2; insert; listen=1; >1 event 2 2; setattr; <1; dispatch=1",
		`element "p" ""; insert 2 1 0; listen 2 "x" 1 0 0; dispatch 2 "x" 1`, `setattr 2 "id" "a"`)
	wantTrace(t, "2", "observer=1; observe; element=2; insert; >1 records 1 1; <1",
		`observer 1; observe 1 1 3; element "p" ""; insert 2 1 0`, "")
}

// The ten examples of the whole.
func TestTenExamples(t *testing.T) {
	put := `element "p" ""; insert 2 1 0; text "abc"; insert 3 2 0; `
	wasPut := "element=2; insert; text=3; insert; "
	wantTrace(t, "1", wasPut+`dump"#document\n  <p>\n    #text 3\n"`, put+"dump 1")
	wantTrace(t, "2", wasPut+`split=4; dump"#document\n  <p>\n    #text 1\n    #text 2\n"; normalize; dump"<p>\n  #text 3\n"`, put+"split 3 1; dump 1; normalize 2; dump 2")
	wantTrace(t, "3", wasPut+"element=4; insert!hierarchy", put+`element "p" ""; insert 4 1 0`)
	s := wantTrace(t, "4", wasPut+`range=1; extract=4; dump"#fragment\n  #text 1\n"; dump"<p>\n  #text 2\n"`, put+"range 3 1 3 2; extract 1; dump 4; dump 2")
	if at := (api.Bound{Node: 3, Offset: 1}); s.Ranges[0] != (api.Range{Start: at, End: at}) || string(rune(s.Forest.Nodes[4].Data[0])) != "b" {
		t.Error("4:", s.Ranges, s.Forest.Nodes[4])
	}
	slot := `element "div" ""; attach 2 1 no; element "slot" ""; setattr 4 "name" "a"; insert 4 3 0; element "b" ""; setattr 5 "slot" "a"; insert 5 2 0; `
	wasSlot := "element=2; attach=3; element=4; setattr; insert; element=5; setattr; insert; "
	wantTrace(t, "5", wasSlot+"ask=4; listen=1; listen=2; listen=3; listen=4; >1 event 5 2; <1; >1 event 4 3; <1; >1 event 3 3; <1; >1 event 2 3; <1; dispatch=1",
		slot+`ask 5 9; listen 2 "x" 1 0 0; listen 3 "x" 1 0 0; listen 4 "x" 1 0 0; listen 5 "x" 1 0 0; dispatch 5 "x" 1`, "")
	wantTrace(t, "6", wasPut+"listen=1; listen=2; >2 event 1 1; <2; >1 event 3 2; <1; dispatch=1",
		put+`listen 3 "x" 1 0 0; listen 1 "x" 2 1 0; dispatch 3 "x" 1`, "", "")
	wantTrace(t, "7", "observer=1; observe; "+"element=2; insert; >1 records 1 1; <1; text=3; insert",
		"observer 1; observe 1 1 1; "+put, "")
	wantTrace(t, "8", "element=2; setattr; insert; >1 construct 2 0; <1; >4 changed 2 0; <4; >2 connected 2 0; <2; define; ask=3",
		`element "x-a" ""; setattr 2 "id" "a"; insert 2 1 0; define "x-a" "" [1 2 3 0 4] ["id"]; ask 2 10`, "", "", "", "")
	wantTrace(t, "9", "timer=1; micro; >2 micro 0 0; <2; tick=1; >1 task 0 0; <1; turn=1", "timer 0 1; micro 2; tick 0; turn 0", "", "")
	s = wantTrace(t, "10", "listen=1; "+strings.Repeat(">1 event 1 2; ", 32)+"dispatch!many; <1!many; "+strings.Repeat("dispatch=1; <1; ", 31)+"dispatch=1",
		`listen 1 "x" 1 0 0; dispatch 1 "x" 0`, `dispatch 1 "x" 0`)
	if s.Exhausted || s.Fuel != 400-1-1-32*2 {
		t.Error("10:", s.Fuel)
	}
	s = wantRun(t, "10, by the fuel", "listen=1; >1 event 1 2; >1 event 1 2; .", written(t, 5, `listen 1 "x" 1 0 0; dispatch 1 "x" 0`, `dispatch 1 "x" 0`))
	if !s.Exhausted {
		t.Error("10, by the fuel")
	}
}

// worldOf is a new one with a script's programs and fuel.
func worldOf(t *testing.T, s api.Script) *world.World {
	t.Helper()
	w, why := world.New(s.Programs, s.Fuel)
	fine(t, why)
	return w
}
