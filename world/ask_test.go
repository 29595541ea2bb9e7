package world_test

import (
	"strconv"
	"strings"
	"testing"

	"canopy/api"
	"canopy/sample"
	"canopy/world"
)

// shop has a host 2 with an open shadow root 3, in which is a slot 4 of the text 5, and one with a closed shadow root 7, in which is a slot 8 of the text 9; 10 is a custom element, 11 one that failed, 12 one that waits to be defined, 13 another document.
func shop(t *testing.T) *world.World {
	t.Helper()
	return begun(t, `element "div" ""; insert 2 1 0; attach 2 1 no; element "slot" ""; insert 4 3 0; text "abc"; insert 5 2 0; `+
		`element "p" ""; insert 6 2 0; attach 6 2 no; element "slot" ""; insert 8 7 0; text "de"; insert 9 6 0; `+
		`define "x-a" "" [1 0 0 0 0] []; define "x-b" "" [2 0 0 0 0] []; element "x-a" ""; insert 10 6 0; element "x-b" ""; element "x-c" ""; clone 1 no; setattr 2 "id" "v\x00"`, "", "ask 0 0")
}

// OpAsk: each question.
func TestQuestions(t *testing.T) {
	w := shop(t)
	for question, want := range map[api.Question]map[int]int{
		api.AskParent: {1: 0, 2: 1, 3: 0, 4: 3, 5: 2, 6: 2, 7: 0, 9: 6, 10: 6, 13: 0},
		api.AskFirst:  {1: 2, 2: 5, 3: 4, 4: 0, 5: 0, 6: 9, 13: 0},
		api.AskKids:   {1: 1, 2: 2, 3: 1, 4: 0, 5: 0, 6: 2, 13: 0},
		api.AskLength: {1: 1, 2: 2, 3: 1, 4: 0, 5: 3, 6: 2, 9: 2, 13: 0},
		api.AskIndex:  {1: 0, 2: 0, 3: 0, 5: 0, 6: 1, 9: 0, 10: 1, 11: 0},
		api.AskRoot:   {1: 1, 2: 1, 3: 3, 4: 3, 5: 1, 8: 7, 10: 1, 11: 11, 13: 13},
		api.AskTop:    {1: 1, 2: 1, 3: 1, 4: 1, 8: 1, 11: 11, 13: 13},
		api.AskDoc:    {1: 1, 3: 1, 9: 1, 12: 1, 13: 13},
		api.AskShadow: {1: 0, 2: 3, 3: 0, 5: 0, 6: 0, 10: 0},
		api.AskSlot:   {1: 0, 2: 0, 5: 4, 6: 4, 9: 0, 10: 0},
		api.AskState:  {1: 0, 2: 0, 5: 0, 10: int(api.StateCustom), 11: int(api.StateFailed), 12: int(api.StateUndefined), 13: 0},
	} {
		for h, n := range want {
			l, _ := w.Fork().Do(api.Command{Op: api.OpAsk, A: h, N: int(question)})
			if len(l) != 1 || l[0] != (api.Mark{Kind: api.MarkDone, Op: api.OpAsk, Value: n}) {
				t.Errorf("question %d of %d: %v; want %d", question, h, l, n)
			}
		}
	}
}

// OpAsk: the slot that a node was given to by hand.
func TestAskSlotByHand(t *testing.T) {
	wantTrace(t, "by hand", "element=2; attach=3; element=4; insert; text=5; insert; ask; assign; ask=4; assign; ask",
		`element "p" ""; attach 2 1 yes; element "slot" ""; insert 4 3 0; text "a"; insert 5 2 0; ask 5 9; assign 4 [5]; ask 5 9; assign 4 []; ask 5 9`)
}

// OpAsk, OpGet, OpFind, OpDump: what they tell, and each error; a handle of none goes ahead of a question that is none.
func TestAsk(t *testing.T) {
	long := strings.Repeat("a", api.MaxName+1)
	wantOps(t, shop(t), map[string]string{
		"ask 0 0":                     "ask!range",
		"ask 14 0":                    "ask!range",
		"ask -1 0":                    "ask!range",
		"ask 0 11":                    "ask!range",
		"ask 99 -1":                   "ask!range",
		"ask 1 11":                    "ask!type",
		"ask 1 -1":                    "ask!type",
		"ask 1 256":                   "ask!type",
		"ask 5 10":                    "ask",
		`get 2 "id"`:                  `get=1"v\x00"`,
		`get 2 "ID"`:                  `get=1"v\x00"`,
		`get 2 "class"`:               "get",
		`get 2 ""`:                    "get",
		`get 2 "` + long + `"`:        "get",
		`get 5 "id"`:                  "get!type",
		`get 0 "id"`:                  "get!range",
		`find 1 "*"`:                  "find=3",
		`find 1 "DIV"`:                "find=1",
		`find 2 "p"`:                  "find=1",
		`find 3 "*"`:                  "find=1",
		`find 5 "*"`:                  "find",
		`find 1 ""`:                   "find",
		`find 14 "*"`:                 "find!range",
		`find 0 "*"`:                  "find!range",
		"dump 5":                      `dump"#text 3\n"`,
		"dump 2":                      `dump"<div id>\n  #shadow\n    <slot>\n  #text 3\n  <p>\n    #shadow\n      <slot>\n    #text 2\n    <x-a>\n"`,
		"dump 13":                     `dump"#document\n"`,
		"dump 0":                      "dump!range",
		"dump 14":                     "dump!range",
		"dump -1":                     "dump!range",
		`setattr 2 "class" ""`:        "setattr",
		`setattr 2 "` + long + `" ""`: "setattr!long",
	})
	wantTrace(t, "an empty value", `element=2; setattr; get=1; delattr; get`, `element "p" ""; setattr 2 "a" ""; get 2 "a"; delattr 2 "a"; get 2 "a"`)
}

// OpDump: what is longer than Print has it.
func TestLongDump(t *testing.T) {
	main := ""
	name := strings.Repeat("n", api.MaxName)
	for i := range api.MaxAttrs {
		main += `setattr 2 "` + name[:api.MaxName-2] + strconv.Itoa(10+i) + `" ""; `
	}
	w := begun(t, `element "p" ""; `+main+`fragment; insert 2 3 0; clone 2 no; insert 4 3 0; clone 3 yes; insert 5 3 0; clone 3 yes; insert 8 3 0`)
	wantOp(t, w, api.Command{Op: api.OpInsert, A: 8, B: 3}, "insert")
	w = begun(t, `element "p" ""; `+main+`fragment; insert 2 3 0; clone 3 yes; insert 4 3 0; clone 3 yes; insert 6 3 0; clone 3 yes; insert 9 3 0; clone 3 yes; insert 14 3 0`)
	wantOp(t, w, api.Command{Op: api.OpDump, A: 3}, "dump!long")
}

// 29.8, P11: asking at any place of a script, with one more fuel, tells one mark more, and changes no other one, nor the state.
func TestAsking(t *testing.T) {
	asked := map[api.Op]int{}
	for seed := range 400 {
		d := sample.NewDice(seed)
		s := sample.Play(d)
		s.Fuel = min(s.Fuel, api.MaxFuel-1)
		marks, state, why := world.Run(s)
		fine(t, why)
		for range 4 {
			at := d.Below(len(s.Commands) + 1)
			c := sample.Command(d, api.OpAsk+api.Op(d.Below(4)))
			c.A, c.N, c.S = 1+d.Below(12), d.Below(int(api.AskCount)), []string{"id", "*", "slot"}[d.Below(3)]
			more := s
			more.Commands = append(append(append([]api.Command{}, s.Commands[:at]...), c), s.Commands[at:]...)
			more.Fuel++
			told, then, why := world.Run(more)
			fine(t, why)
			ahead := s
			ahead.Commands = s.Commands[:at]
			l, was, _ := world.Run(ahead)
			if was.Exhausted {
				continue // it is not asked any more, and one more command can be done
			}
			asked[c.Op]++
			if len(told) != len(marks)+1 || told[len(l)].Op != c.Op || spelled(append(append([]api.Mark{}, told[:len(l)]...), told[len(l)+1:]...)) != spelled(marks) {
				t.Fatalf("seed %d: %+v at %d:\n%s; without\n%s", seed, c, at, spelled(told), spelled(marks))
			}
			if !sample.SameState(then, state) {
				t.Fatalf("seed %d: %+v at %d changes what there is", seed, c, at)
			}
		}
	}
	for op := api.OpAsk; op < api.OpCount; op++ {
		if asked[op] < 50 {
			t.Error("too few:", asked)
		}
	}
}

// 29.8: within a program that is called once, likewise.
func TestAskingWithin(t *testing.T) {
	main := `element "p" ""; insert 2 1 0; listen 2 "x" 1 0 0; observer 2; observe 1 1 7; micro 2; dispatch 2 "x" 3`
	s := written(t, 40, main, `setattr 2 "id" "a"; effect 3; signal`, "signal")
	marks, state, _ := world.Run(s)
	for at := range 4 {
		for _, ask := range commands(t, `ask 2 3; ask 9 9; get 2 "id"; find 1 "*"; dump 1`) {
			if ask.A == 9 && at < 3 {
				continue // what is refused ends the program
			}
			more := sample.CopyScript(s)
			l := more.Programs[0]
			more.Programs[0] = append(append(append([]api.Command{}, l[:at]...), ask), l[at:]...)
			more.Fuel++
			told, then, _ := world.Run(more)
			var others []api.Mark
			for _, m := range told {
				if m.Op != ask.Op {
					others = append(others, m)
				}
			}
			if ask.A != 9 && (len(told) != len(marks)+1 || spelled(others) != spelled(marks)) || !sample.SameState(then, state) {
				t.Errorf("%+v at %d:\n%s; without\n%s", ask, at, spelled(told), spelled(marks))
			}
		}
	}
}
