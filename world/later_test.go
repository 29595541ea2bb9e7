package world_test

import (
	"slices"
	"strconv"
	"strings"
	"testing"

	"canopy/api"
	"canopy/sample"
)

// Of the commands: tasks, timers, definitions.
func TestLater(t *testing.T) {
	w := begun(t, `element "x-a" ""; define "x-b" "" [1 0 0 0 0] []; timer 5 1; task 3 1; micro 2`, "", "", "")
	long := strings.Repeat("a", api.MaxName)
	wantOps(t, w, map[string]string{
		`task 0 1`:                              "task",
		`task 7 3`:                              "task",
		`task 8 1`:                              "task!range",
		`task -1 1`:                             "task!range",
		`task 0 0`:                              "task!range",
		`task 0 4`:                              "task!range",
		`task 0 -1`:                             "task!range",
		`micro 3`:                               "micro; >3 micro 0 0; <3",
		`micro 0`:                               "micro!range",
		`micro 4`:                               "micro!range",
		`micro -1`:                              "micro!range",
		`timer 0 1`:                             "timer=2",
		`timer -9223372036854775808 1`:          "timer=2",
		`timer 1125899906842624 1`:              "timer=2",
		`timer 1125899906842625 1`:              "timer!range",
		`timer 0 0`:                             "timer!range",
		`timer 0 4`:                             "timer!range",
		`clear 1`:                               "clear=1",
		`clear 0`:                               "clear",
		`clear 2`:                               "clear",
		`clear -1`:                              "clear",
		`tick 0`:                                "tick",
		`tick 5`:                                "tick=1",
		`tick -1`:                               "tick!range",
		`tick 1125899906842624`:                 "tick=1",
		`tick 1125899906842625`:                 "tick!range",
		`turn 0`:                                ">1 task 3 0; <1; turn=1",
		`turn -7`:                               ">1 task 3 0; <1; turn=1",
		`define "x-c" "" [2 0 0 0 0] []`:        "define",
		`define "x-c" "" [2 1 2 3 1] ["a" "b"]`: "define",
		`define "x-c" "p" [2 0 0 0 0] []`:       "define",
		`define "x-c" "x-c" [2 0 0 0 0] []`:     "define",
		`define "x-c" "x-d" [2 0 0 0 0] []`:     "define!unsupported",
		`define "x-b" "" [2 0 0 0 0] []`:        "define!unsupported",
		`define "x-c" "" [1 0 0 0 0] []`:        "define!unsupported",
		`define "p" "" [2 0 0 0 0] []`:          "define!syntax",
		`define "" "" [2 0 0 0 0] []`:           "define!syntax",
		`define "p" "" [2 0 0 0] []`:            "define!range",
		`define "p" "" [2 0 0 0 0 0] []`:        "define!range",
		`define "x-c" "" [] []`:                 "define!range",
		`define "x-c" "" [0 1 1 1 1] []`:        "define!range",
		`define "x-c" "" [4 0 0 0 0] []`:        "define!range",
		`define "x-c" "" [-1 0 0 0 0] []`:       "define!range",
		`define "x-c" "" [2 4 0 0 0] []`:        "define!range",
		`define "x-c" "" [2 0 4 0 0] []`:        "define!range",
		`define "x-c" "" [2 0 0 -1 0] []`:       "define!range",
		`define "p" "" [2 0 0 0 4] []`:          "define!range",
		`define "x-` + long + `" "" [2 0 0 0 0] []`:     "define!syntax",
		`define "x-c" "` + long + `a" [2 0 0 0 0] []`:   "define!unsupported",
		`define "x-c" "" [2 0 0 0 0] ["` + long + `a"]`: "define!many",
	})
	names := slices.Repeat([]string{"a"}, api.MaxAttrs+1)
	wantOp(t, w, api.Command{Op: api.OpDefine, S: "x-c", List: []int{2, 0, 0, 0, 0}, Names: names}, "define!many")
	wantOp(t, w, api.Command{Op: api.OpDefine, S: "x-c", List: []int{2, 0, 0, 0, 0}, Names: names[1:]}, "define")
}

// OpDefine: what a definition is made of.
func TestDefinition(t *testing.T) {
	programs := []string{"", "", "", "", ""}
	want := api.Definition{Name: "x-a", Local: "x-a", Constructor: 1, Connected: 2, Disconnected: 3, Adopted: 4, Changed: 5, Observed: []string{"id", "b"}}
	for text, local := range map[string]string{
		`define "x-a" "" [1 2 3 4 5] ["id" "b"]`: "x-a", `define "x-a" "x-a" [1 2 3 4 5] ["id" "b" "id"]`: "x-a", `define "x-a" "p" [1 2 3 4 5] ["id" "b"]`: "p",
	} {
		want.Local = local
		if l := begun(t, text, programs...).State().Registry.Definitions; len(l) != 1 || !sample.SameDefinition(l[0], want) {
			t.Errorf("%s: %v", text, l)
		}
	}
}

// OpTurn: by the pick, of each source in order; a task is called with its source; then, and of nothing, 0; not within a program.
func TestTurn(t *testing.T) {
	wantTrace(t, "picks", "task; task; task; >3 task 7 0; <3; turn=1; >1 task 0 0; <1; turn=1; >2 task 2 0; <2; turn=1; turn",
		"task 0 1; task 2 2; task 7 3; turn 2; turn 0; turn -1; turn 5", "", "", "")
	wantTrace(t, "microtasks first", "task; micro; >2 micro 0 0; <2; >1 task 1 0; micro; <1; turn=1; >2 micro 0 0; <2; turn", "task 1 1; micro 2; turn 0; turn 0", "micro 2", "")
	wantTrace(t, "within a task", "task; >1 task 0 0; turn!state; <1!state; turn=1; tick", "task 0 1; turn 0; tick 9", "turn 0; timer 9 1")
	wantTrace(t, "within a microtask", "micro; >1 micro 0 0; tick!state; <1!state", "micro 1", "tick 0")
	wantTrace(t, "within a program, and wrong", "micro; >1 micro 0 0; tick!state; <1!state", "micro 1", "tick -1")
	wantTrace(t, "a timer that sets itself again", "timer=1; tick=1; >1 task 0 0; timer=2; <1; turn=1; turn; tick=1; >1 task 0 0; timer=3; <1; turn=1",
		"timer 0 1; tick 0; turn 0; turn 0; tick 0; turn 0", "timer 0 1")
	wantTrace(t, "cleared", "timer=1; timer=2; clear=1; tick=1; >2 task 0 0; <2; turn=1; clear; turn", "timer 3 1; timer 3 2; clear 1; tick 3; turn 0; clear 2; turn 0", "", "")
}

// Words (doing a reaction): the order of upgrades and of what they tell; with a list of elements, and with the backup list.
func TestUpgrades(t *testing.T) {
	two := `element "div" ""; insert 2 1 0; element "x-a" ""; setattr 3 "id" "a"; insert 3 2 0; element "x-a" ""; insert 4 2 0; `
	wasTwo := "element=2; insert; element=3; setattr; insert; element=4; insert; "
	define := `define "x-a" "" [1 2 3 4 5] ["id"]`
	empty := []string{"", "", "", "", ""}
	wantTrace(t, "at the top", wasTwo+">1 construct 3 0; <1; >1 construct 4 0; <1; >5 changed 3 0; <5; >2 connected 3 0; <2; >2 connected 4 0; <2; define",
		two+define, empty...)
	wantTrace(t, "within a program", wasTwo+"listen=1; >6 event 1 2; >1 construct 3 0; <1; >1 construct 4 0; <1; define; <6; >5 changed 3 0; <5; >2 connected 3 0; <2; >2 connected 4 0; <2; dispatch=1",
		two+`listen 1 "x" 6 0 0; dispatch 1 "x" 0`, append(empty, define)...)
	// Where the stack is empty, any command of a constructor is followed by what waits on the backup list.
	busy := slices.Clone(empty)
	busy[0] = "signal; ask 3 10"
	wantTrace(t, "a constructor that does something", wasTwo+">1 construct 3 0; >5 changed 3 0; <5; >2 connected 3 0; <2; signal=1; ask=2; <1; >1 construct 4 0; >2 connected 4 0; <2; signal=2; ask=3; <1; define",
		two+define, busy...)
	// A later one that comes into being is upgraded at once, and told when it comes in.
	wantTrace(t, "made later", "define; >1 construct 2 0; <1; element=2; element=3; >2 connected 2 0; <2; insert; >5 changed 2 0; <5; setattr; setattr; >3 disconnected 2 0; <3; remove; setattr",
		define+`; element "x-a" ""; element "p" ""; insert 2 1 0; setattr 2 "id" "b"; setattr 2 "class" "b"; remove 2 1; setattr 3 "id" "b"`, empty...)
	wantTrace(t, "a copy", "define; >1 construct 2 0; <1; element=2; setattr; element=3; insert; >1 construct 5 0; <1; clone=4"+"",
		`define "x-a" "" [1 0 0 0 0] []; element "x-a" ""; setattr 2 "id" "b"; element "p" ""; insert 2 3 0; clone 3 yes`, empty...)
	// What hangs nowhere is no candidate; it is upgraded when it comes in.
	wantTrace(t, "in later", "element=2; define; ask=1; >1 construct 2 0; <1; >2 connected 2 0; <2; insert; ask=3",
		`element "x-a" ""; `+define+`; ask 2 10; insert 2 1 0; ask 2 10`, empty...)
}

// Words (having changes done): the is of an element that is made.
func TestIs(t *testing.T) {
	s := wantTrace(t, "is", "element=2; element=3; element=4; clone=5; insert; >1 construct 2 0; <1; define; >1 construct 6 0; <1; element=6; element=7",
		`element "p" "x-b"; element "p" ""; element "x-a" ""; clone 2 no; insert 2 1 0; define "x-b" "p" [1 0 0 0 0] []; element "P" "x-b"; element "i" "x-b"`, "")
	want := []api.Custom{
		{Node: 2, State: api.StateCustom, Is: "x-b", Definition: "x-b"}, {Node: 3}, {Node: 4, State: api.StateUndefined}, {Node: 5},
		{Node: 6, State: api.StateCustom, Is: "x-b", Definition: "x-b"}, {Node: 7, State: api.StateUndefined, Is: "x-b"},
	}
	if !slices.Equal(s.Registry.Elements, want) {
		t.Error(s.Registry.Elements)
	}
}

// Words (doing a reaction): a constructor that ends with an error: the element has failed, and nothing of it waits any more; of others all waits on.
func TestFailed(t *testing.T) {
	put := `element "x-a" ""; setattr 2 "id" "a"; insert 2 1 0; `
	wasPut := "element=2; setattr; insert; "
	define := `define "x-a" "" [1 2 2 2 2] ["id"]`
	// Where the stack is empty, what is on the backup list is done behind the command that is refused, ahead of its mark.
	s := wantTrace(t, "at the top", wasPut+">1 construct 2 0; >2 changed 2 0; <2; >2 connected 2 0; <2; ask!type; <1!type; define; ask=2; setattr; remove; insert",
		put+define+`; ask 2 10; setattr 2 "id" "b"; remove 2 1; insert 2 1 0`, "ask 1 99", "")
	if e := s.Registry.Elements[0]; e.State != api.StateFailed || e.Definition != "x-a" {
		t.Error(e)
	}
	s = wantTrace(t, "within a command", wasPut+"listen=1; >3 event 1 2; >1 construct 2 0; ask!type; <1!type; define; <3; dispatch=1; ask=2; setattr; remove; insert",
		put+`listen 1 "x" 3 0 0; dispatch 1 "x" 0; ask 2 10; setattr 2 "id" "b"; remove 2 1; insert 2 1 0`, "ask 1 99", "", define)
	if e := s.Registry.Elements[0]; e.State != api.StateFailed || e.Definition != "x-a" {
		t.Error(e)
	}
	two := `element "p" ""; insert 2 1 0; element "x-a" ""; insert 3 2 0; element "x-a" ""; insert 4 2 0; `
	wantTrace(t, "the second one", "element=2; insert; element=3; insert; element=4; insert; element=5; insert; listen=1; "+
		">3 event 1 2; >1 construct 3 0; remove; <1; >1 construct 4 0; remove!found; <1!found; define; <3; >2 connected 3 0; <2; dispatch=1; ask=3; ask=2",
		two+`element "i" ""; insert 5 2 0; listen 1 "x" 3 0 0; dispatch 1 "x" 0; ask 3 10; ask 4 10`, "remove 5 2", "", `define "x-a" "" [1 2 0 0 0] []`)
}

// Words (doing a reaction): each kind, why it is called, of which element, and with what.
func TestReasons(t *testing.T) {
	main := `define "x-a" "" [1 2 3 4 5] ["id"]; element "x-a" ""; clone 1 no; insert 2 3 0; remove 2 3; insert 2 1 0; insert 2 3 0; setattr 2 "id" "x"; delattr 2 "id"; delattr 2 "id"`
	want := "define; >1 construct 2 0; <1; element=2; clone=3; " +
		">4 adopted 2 3; <4; >2 connected 2 0; <2; insert; >3 disconnected 2 0; <3; remove; >4 adopted 2 1; <4; >2 connected 2 0; <2; insert; " +
		">3 disconnected 2 0; <3; >4 adopted 2 3; <4; >2 connected 2 0; <2; insert; >5 changed 2 0; <5; setattr; >5 changed 2 0; <5; delattr; delattr"
	wantTrace(t, "all", want, main, "", "", "", "", "")
	quiet := strings.ReplaceAll(main, "[1 2 3 4 5]", "[1 0 0 0 0]")
	wantTrace(t, "none", "define; >1 construct 2 0; <1; element=2; clone=3; insert; remove; insert; insert; setattr; delattr; delattr", quiet, "")
	// What a callback refuses is no matter to the command.
	wantTrace(t, "refused", "define; >1 construct 2 0; <1; element=2; >2 connected 2 0; ask!range; <2!range; insert; ask=3", `define "x-a" "" [1 2 0 0 0] []; element "x-a" ""; insert 2 1 0; ask 2 10`, "", "ask 0 0")
}

// Words (doing a command): reactions are done behind the command, ahead of its mark, within programs, too; those of what is refused are none.
func TestWhenReactionsAreDone(t *testing.T) {
	main := `define "x-a" "" [1 2 3 0 0] []; element "x-a" ""; listen 1 "x" 4 0 0; dispatch 1 "x" 0`
	wantTrace(t, "within a program", "define; >1 construct 2 0; <1; element=2; listen=1; >4 event 1 2; >2 connected 2 0; <2; insert; >3 disconnected 2 0; <3; remove; signal=1; <4; dispatch=1",
		main, "", "", "", "insert 2 1 0; remove 2 1; signal")
	wantTrace(t, "by a reaction", "define; >1 construct 2 0; <1; element=2; >2 connected 2 0; >3 disconnected 2 0; <3; remove; signal=1; <2; insert",
		`define "x-a" "" [1 2 3 0 0] []; element "x-a" ""; insert 2 1 0`, "", "remove 2 1; signal", "")
	deep := `define "x-a" "" [1 2 3 0 0] []; element "x-a" ""; insert 2 1 0`
	wantTrace(t, "in and out, as deep as may be", "define; >1 construct 2 0; <1; element=2; "+inAndOut(1), deep, "", "remove 2 1", "insert 2 1 0")
}

// inAndOut is the trace of an element that is taken out whenever it comes in, and put in whenever it goes, from a depth on.
func inAndOut(depth int) string {
	word, program, why := "insert", "2", "connected"
	if depth%2 == 0 {
		word, program, why = "remove", "3", "disconnected"
	}
	if depth > api.MaxNest {
		return "<" + program + "!many; " + word
	}
	within := ">" + program + " " + why + " 2 0; " + inAndOut(depth+1) + "; <" + program + "; "
	return within + word
}

// Words (microtasks): observers, by their numbers, and then slots, in one microtask, where that stands among others.
func TestMicrotasks(t *testing.T) {
	tree := `element "div" ""; insert 2 1 0; attach 2 1 no; element "slot" ""; insert 4 3 0; listen 4 "slotchange" 1 0 0; observer 2; observer 3; observe 1 1 3; observe 2 2 1; element "p" ""; `
	w := begun(t, tree, "", "signal", "", "micro 3; insert 5 2 0; micro 2")
	records := ">2 records 1 1; signal=1; <2; >3 records 2 1; <3; "
	wantOps(t, w, map[string]string{
		"insert 5 2 0":           "insert; " + records + ">1 event 4 2; <1",
		"micro 4":                "micro; >4 micro 0 0; micro; insert; micro; <4; >3 micro 0 0; <3; " + records + ">1 event 4 2; <1; >2 micro 0 0; signal=2; <2",
		"insert 5 1 0":           "insert!hierarchy",
		"setattr 5 \"id\" \"a\"": "setattr",
	})
	// The slot hears of itself, and so do those above it in its tree, but not the host.
	wantTrace(t, "bubbles", "element=2; attach=3; element=4; insert; listen=1; listen=2; text=5; insert; >1 event 3 3; <1",
		`element "p" ""; attach 2 1 no; element "slot" ""; insert 4 3 0; listen 3 "slotchange" 1 0 0; listen 2 "slotchange" 1 0 0; text "a"; insert 5 2 0`, "")
	// Told while they are told: it waits once more.
}

// Words (microtasks): slots that must be told while they are told are told once more.
func TestSlotsToldWhileTold(t *testing.T) {
	main := `element "p" ""; attach 2 1 no; element "slot" ""; insert 4 3 0; text "a"; text "b"; listen 4 "slotchange" `
	was := "element=2; attach=3; element=4; insert; text=5; text=6; listen=1; "
	wantTrace(t, "once", was+"listen=2; insert; >1 event 4 2; insert; <1; >2 event 4 2; <2; >2 event 4 2; <2", main+`1 2 0; listen 4 "slotchange" 2 0 0; insert 5 2 0`, "insert 6 2 0", "")
	wantRun(t, "again and again", was+"insert; "+strings.Repeat(">1 event 4 2; insert; <1; ", 3)+">1 event 4 2; .", written(t, 15, main+"1 0 0; insert 5 2 0", "insert 6 2 5"))
}

// OpAssign: the slots to which something else is assigned, by rising handles; where nothing else is, none.
func TestAssign(t *testing.T) {
	tree := `element "div" ""; insert 2 1 0; attach 2 1 yes; element "slot" ""; element "slot" ""; insert 5 3 0; insert 4 3 0; text "a"; text "b"; insert 6 2 0; insert 7 2 0; ` +
		`listen 4 "slotchange" 1 0 0; listen 5 "slotchange" 2 0 0; assign 5 [6]`
	w := begun(t, tree, "", "")
	one, two := ">1 event 4 2; <1", ">2 event 5 2; <2"
	wantOps(t, w, map[string]string{
		"assign 5 [6]":     "assign",
		"assign 5 [6 6]":   "assign",
		"assign 5 [6 7]":   "assign; " + two,
		"assign 5 [7]":     "assign; " + two,
		"assign 5 []":      "assign; " + two,
		"assign 4 [7]":     "assign; " + one,
		"assign 4 [6]":     "assign; " + one + "; " + two,
		"assign 4 [7 6]":   "assign; " + one + "; " + two,
		"assign 4 [2]":     "assign",
		"assign 5 [6 2 5]": "assign",
	})
	s := w.State()
	if len(s.Hand) != 1 || s.Hand[0].Slot != 5 || !slices.Equal(s.Hand[0].Nodes, []int{6}) {
		t.Error(s.Hand)
	}
	// Ahead of what was there already, behind it: each once.
	wantTrace(t, "each once", "element=2; attach=3; element=4; element=5; insert; insert; text=6; insert; listen=1; listen=2; micro; >3 micro 0 0; assign; assign; assign; <3; >2 event 5 2; <2; >1 event 4 2; <1",
		`element "p" ""; attach 2 1 yes; element "slot" ""; element "slot" ""; insert 4 3 0; insert 5 3 0; text "a"; insert 6 2 0; listen 4 "slotchange" 1 0 0; listen 5 "slotchange" 2 0 0; micro 3`,
		"", "", "assign 5 [6]; assign 4 [6]; assign 5 [6]")
}

// OpTake, OpDisconnect: what is queued is handed over, or gone, ahead of the microtask.
func TestObserversMeanwhile(t *testing.T) {
	main := `observer 1; observer 1; observe 1 1 7; observe 2 1 1; element "p" ""; micro 2`
	was := "observer=1; observer=2; observe; observe; element=2; micro; >2 micro 0 0; "
	wantTrace(t, "taken", was+"insert; setattr; take=2; take; <2; >1 records 2 1; <1", main, "", `insert 2 1 0; setattr 2 "id" "a"; take 1; take 1`)
	wantTrace(t, "left", was+"insert; setattr; <2; >1 records 1 2; <1; >1 records 2 1; <1", main, "", `insert 2 1 0; setattr 2 "id" "a"`)
	wantTrace(t, "disconnected", was+"insert; disconnect; setattr; <2; >1 records 2 1; <1", main, "", `insert 2 1 0; disconnect 1; setattr 2 "id" "a"`)
	wantTrace(t, "all taken", was+"insert; take=1; take=1; <2", main, "", `insert 2 1 0; take 1; take 2`)
	wantRun(t, "by an observer", "observer=1; observe; element=2; insert; >1 records 1 1; setattr; <1; >1 records 1 1; setattr; <1; .", written(t, 8, `observer 1; observe 1 1 7; element "p" ""; insert 2 1 0`, `setattr 2 "id" "a"`))
}

// 29.3: programs of observers stand in the state.
func TestProgramsOfObservers(t *testing.T) {
	if s := begun(t, "observer 2; observer 1; observer 2", "", "").State(); !slices.Equal(s.Programs, []int{2, 1, 2}) || len(s.Watch.Queues) != 3 {
		t.Error(s.Programs, s.Watch)
	}
}

// Limits: MaxLive ranges, iterators, and one more, behind the errors of the calls; observers, definitions, signals, listeners as their calls have it.
func TestLimits(t *testing.T) {
	for _, x := range []struct {
		one   func(i int) string
		most  int
		wrong map[string]string
	}{
		{func(int) string { return "range 1 0 1 0" }, api.MaxLive, map[string]string{"range 1 0 1 0": "range!many", "range 0 0 1 0": "range!range", "range 1 1 1 0": "range!index"}},
		{func(int) string { return "iterate 1 1" }, api.MaxLive, map[string]string{"iterate 1 1": "iterate!many", "iterate 0 1": "iterate!range", "iterate 1 -1": "iterate!range", "iterate 1 4294967296": "iterate!range"}},
		{func(int) string { return "observer 1" }, api.MaxObservers, map[string]string{"observer 1": "observer!many", "observer 0": "observer!range"}},
		{func(int) string { return "signal" }, api.MaxSignals, map[string]string{"signal": "signal!many", "any [1]": "any!many", "any [0]": "any!many"}},
		{func(i int) string { return `listen 1 "e` + strconv.Itoa(i) + `" 1 0 0` }, api.MaxListeners, map[string]string{`listen 1 "x" 1 0 0`: "listen!many", `listen 1 "e1" 1 0 0`: "listen", `listen 0 "x" 1 0 0`: "listen!range"}},
	} {
		var all []string
		for i := range x.most {
			all = append(all, x.one(i))
		}
		w := begun(t, strings.Join(all, "; "), "")
		wantOps(t, w, x.wrong)
	}
	var programs []string
	main := ""
	for i := range api.MaxDefinitions + 1 {
		programs = append(programs, "")
		if i < api.MaxDefinitions {
			main += `define "x-` + strconv.Itoa(i) + `" "" [` + strconv.Itoa(i+1) + ` 0 0 0 0] []; `
		}
	}
	wantOps(t, begun(t, main, programs...), map[string]string{`define "x-a" "" [257 0 0 0 0] []`: "define!many", `define "x-a" "" [258 0 0 0 0] []`: "define!range"})
}
