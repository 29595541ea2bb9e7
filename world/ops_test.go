package world_test

import (
	"math"
	"slices"
	"strconv"
	"strings"
	"testing"

	"canopy/api"
	"canopy/forest"
	"canopy/sample"
	"canopy/world"
)

// stage has a node of most kinds: 2 is a div in the document 1, 3 a p in it with the text 4, "abc"; 5 a comment, 6 a fragment, 7 an x-a, which hang nowhere; 8 the shadow root of 2, a Manual one, 9 a slot in it; a range of 4, an iterator of 2, an observer, a listener, a signal and an aborted one.
func stage(t *testing.T) *world.World {
	t.Helper()
	return begun(t, `element "div" ""; insert 2 1 0; element "p" ""; insert 3 2 0; text "abc"; insert 4 3 0; comment "c"; fragment; element "x-a" "";
		attach 2 1 yes; element "slot" ""; insert 9 8 0; range 4 1 4 2; iterate 2 4294967295; observer 1; listen 2 "x" 1 0 0; signal; signal; abort 2 7`, "signal", "")
}

// wantOp sees what a command is told to have done in a fork of a world; what is refused changes nothing but the fuel.
func wantOp(t *testing.T, w *world.World, c api.Command, want string) *world.World {
	t.Helper()
	f := w.Fork()
	l, why := f.Do(c)
	if got := spelled(l); got != want || why != api.OK {
		t.Errorf("%+v: %s, error %d; want %s", c, got, why, want)
	}
	if last := l[len(l)-1]; len(l) == 1 && last.Why != api.OK {
		was := w.State()
		was.Fuel--
		if !sample.SameState(was, f.State()) || last.Value != 0 || last.Text != "" {
			t.Errorf("%+v is refused, but changes what there is", c)
		}
	}
	if !slices.Equal(append(w.Marks(), l...), f.Marks()) {
		t.Errorf("%+v: all marks are other ones", c)
	}
	return f
}

func wantOps(t *testing.T, w *world.World, want map[string]string) {
	t.Helper()
	for text, trace := range want {
		wantOp(t, w, commands(t, text)[0], trace)
	}
}

// Of the commands: what each of those answers that make nodes, and each error of the calls that are asked.
func TestMakes(t *testing.T) {
	w := stage(t)
	long := strings.Repeat("a", api.MaxName+1)
	wantOps(t, w, map[string]string{
		`element "DIV" ""`:                      "element=10",
		`element "b" "x-b"`:                     "element=10",
		`element "" ""`:                         "element!character",
		`element "1" ""`:                        "element!character",
		`element "` + long + `" ""`:             "element!long",
		`element "a" "` + long + `"`:            "element!long",
		`element "a" "` + long[1:] + `"`:        "element=10",
		`element "1" "` + long + `"`:            "element!character",
		`text ""`:                               "text=10",
		`text "\ud83d"`:                         "text=10",
		`comment "x"`:                           "comment=10",
		`fragment`:                              "fragment=10",
		`clone 3 yes`:                           "clone=10",
		`clone 1 no`:                            "clone=10",
		`clone 8 yes`:                           "clone!unsupported",
		`clone 0 no`:                            "clone!range",
		`clone 10 no`:                           "clone!range",
		`clone -1 no`:                           "clone!range",
		`attach 3 1 no`:                         "attach=10",
		`attach 7 2 yes`:                        "attach=10",
		`attach 3 0 no`:                         "attach!type",
		`attach 3 3 no`:                         "attach!type",
		`attach 3 -1 no`:                        "attach!type",
		`attach 3 257 no`:                       "attach!type",
		`attach 3 4294967297 no`:                "attach!type",
		`attach 4 1 no`:                         "attach!type",
		`attach 2 1 no`:                         "attach!unsupported",
		`attach 9 1 no`:                         "attach!unsupported",
		`attach 0 1 no`:                         "attach!range",
		`attach 99 9 no`:                        "attach!range",
		`attach -9223372036854775808 1 no`:      "attach!range",
		`clone 9223372036854775807 yes`:         "clone!range",
		`element "a:b" ""`:                      "element=10",
		`element "x" "` + `\x00` + `"`:          "element=10",
		`comment "` + `-->` + `"`:               "comment=10",
		`text "` + strings.Repeat("u", 9) + `"`: "text=10",
	})
	f := wantOp(t, w, api.Command{Op: api.OpText, Data: make(api.Units, api.MaxData)}, "text=10")
	if n := f.State().Forest.Nodes[9]; len(n.Data) != api.MaxData || n.Doc != 1 {
		t.Error("text:", len(n.Data), n.Doc)
	}
	wantOp(t, w, api.Command{Op: api.OpText, Data: make(api.Units, api.MaxData+1)}, "text!long")
	wantOp(t, w, api.Command{Op: api.OpComment, Data: make(api.Units, api.MaxData+1)}, "comment!long")
	f = wantOp(t, w, api.Command{Op: api.OpElement, S: "DIV"}, "element=10")
	if n := f.State().Forest.Nodes[9]; n.Name != (api.Name{Space: api.SpaceHTML, Local: "div"}) || n.Doc != 1 {
		t.Error("element:", n)
	}
	for mode, want := range map[int]api.ShadowMode{1: api.ShadowOpen, 2: api.ShadowClosed} {
		for _, manual := range []bool{false, true} {
			f = wantOp(t, w, api.Command{Op: api.OpAttach, A: 3, N: mode, Yes: manual}, "attach=10")
			if n := f.State().Forest.Nodes[9]; n.Mode != want || n.Manual != manual || n.Host != 3 {
				t.Error("attach:", n)
			}
		}
	}
}

// Of the commands: those that turn trees and data.
func TestTurns(t *testing.T) {
	wantOps(t, stage(t), map[string]string{
		`insert 5 3 0`:            "insert",
		`insert 5 3 4`:            "insert",
		`insert 5 3 2`:            "insert!found",
		`insert 2 3 0`:            "insert!hierarchy",
		`insert 4 1 0`:            "insert!hierarchy",
		`insert 5 99 0`:           "insert!range",
		`insert 0 3 0`:            "insert!range",
		`insert 5 3 -1`:           "insert!range",
		`replace 5 3 4`:           "replace",
		`replace 7 1 2`:           "replace",
		`replace 5 3 0`:           "replace!range",
		`replace 5 3 9`:           "replace!found",
		`replace 1 3 4`:           "replace!hierarchy",
		`remove 4 3`:              "remove",
		`remove 4 2`:              "remove!found",
		`remove 3 4`:              "remove!found",
		`remove 0 3`:              "remove!range",
		`remove 4 -1`:             "remove!range",
		`normalize 1`:             "normalize",
		`normalize 0`:             "normalize!range",
		`content 3 ""`:            "content",
		`content 1 "x"`:           "content",
		`content 5 "xyz"`:         "content",
		`content 10 ""`:           "content!range",
		`data 4 1 1 "x"`:          "data",
		`data 4 3 4294967295 ""`:  "data",
		`data 4 4294967295 0 ""`:  "data!index",
		`data 4 4294967296 0 ""`:  "data!range",
		`data 4 0 4294967296 ""`:  "data!range",
		`data 4 -1 0 ""`:          "data!range",
		`data 4 0 -1 ""`:          "data!range",
		`data 4 4 0 ""`:           "data!index",
		`data 3 0 0 ""`:           "data!type",
		`data 3 -1 0 ""`:          "data!range",
		`data 3 0 4294967296 ""`:  "data!range",
		`data 3 4294967295 0 ""`:  "data!type",
		`data 0 0 0 ""`:           "data!range",
		`split 4 0`:               "split=10",
		`split 4 3`:               "split=10",
		`split 4 4`:               "split!index",
		`split 4 4294967295`:      "split!index",
		`split 4 4294967296`:      "split!range",
		`split 4 -1`:              "split!range",
		`split 5 0`:               "split!type",
		`split 5 -1`:              "split!range",
		`split 11 0`:              "split!range",
		`setattr 3 "ID" "v"`:      "setattr",
		`setattr 3 "1" "v"`:       "setattr!character",
		`setattr 4 "id" "v"`:      "setattr!type",
		`setattr 99 "id" "v"`:     "setattr!range",
		`delattr 3 "none"`:        "delattr",
		`delattr 1 "id"`:          "delattr!type",
		`delattr 0 "id"`:          "delattr!range",
		`toggle 3 "a" 0`:          "toggle=1",
		`toggle 3 "a" 1`:          "toggle=1",
		`toggle 3 "a" 2`:          "toggle",
		`toggle 3 "a" 3`:          "toggle!range",
		`toggle 3 "a" -1`:         "toggle!range",
		`toggle 3 "a" 256`:        "toggle!range",
		`toggle 3 "a" 257`:        "toggle!range",
		`toggle 3 "a" 4294967296`: "toggle!range",
		`toggle 3 "" 0`:           "toggle!syntax",
		`toggle 3 "a b" 0`:        "toggle!character",
		`toggle 4 "a" 0`:          "toggle!type",
		`toggle 4 "a" 9`:          "toggle!type",
		`toggle 0 "a" 9`:          "toggle!range",
		`assign 9 [3 4]`:          "assign",
		`assign 9 []`:             "assign",
		`assign 9 [5]`:            "assign!type",
		`assign 3 [4]`:            "assign!type",
		`assign 9 [10]`:           "assign!range",
		`assign 0 []`:             "assign!range",
	})
}

// Of the commands: what the forest becomes, by its outline.
func TestOutlines(t *testing.T) {
	for command, want := range map[string]string{
		`insert 5 3 4`:         "<p>\n  #comment 1\n  #text 3\n",
		`replace 5 3 4`:        "<p>\n  #comment 1\n",
		`remove 4 3`:           "<p>\n",
		`content 3 "xy"`:       "<p>\n  #text 2\n",
		`data 4 1 1 "xyz"`:     "<p>\n  #text 5\n",
		`split 4 1`:            "<p>\n  #text 1\n  #text 2\n",
		`setattr 3 "ID" "v"`:   "<p id>\n  #text 3\n",
		`toggle 3 "a" 0`:       "<p class>\n  #text 3\n",
		`extract 1`:            "<p>\n  #text 2\n",
		`erase 1`:              "<p>\n  #text 2\n",
		`delattr 3 "id"`:       "<p>\n  #text 3\n",
		`insert 7 3 0`:         "<p>\n  #text 3\n  <x-a>\n",
		`dump 3`:               "<p>\n  #text 3\n",
		`clone 3 yes`:          "<p>\n  #text 3\n",
		`content 3 ""`:         "<p>\n",
		`data 4 0 9 ""`:        "<p>\n  #text 0\n",
		`data 4 0 9 "\ud83d"`:  "<p>\n  #text 1\n",
		`attach 3 2 no`:        "<p>\n  #shadow\n  #text 3\n",
		`normalize 3`:          "<p>\n  #text 3\n",
		`toggle 3 "a" 2`:       "<p>\n  #text 3\n",
		`setattr 3 "a:b" "\""`: "<p a:b>\n  #text 3\n",
	} {
		w := stage(t)
		if _, why := w.Do(commands(t, command)[0]); why != api.OK {
			t.Error(command, why)
		}
		if got, why := forest.Print(w.State().Forest, 3); got != want || why != api.OK {
			t.Errorf("%s: %q; want %q", command, got, want)
		}
	}
}

// Of the commands: ranges, iterators, observers.
func TestLive(t *testing.T) {
	wantOps(t, stage(t), map[string]string{
		`range 1 0 3 1`:                   "range=2",
		`range 4 3 4 3`:                   "range=2",
		`range 4 2 4 1`:                   "range!state",
		`range 1 0 7 0`:                   "range!state",
		`range 4 4 4 4`:                   "range!index",
		`range 4 -1 4 4`:                  "range!index",
		`range 0 0 4 9`:                   "range!range",
		`range 4 9 10 0`:                  "range!range",
		`range 4 9223372036854775807 4 0`: "range!index",
		`extract 1`:                       "extract=10",
		`extract 0`:                       "extract!range",
		`extract 2`:                       "extract!range",
		`extract -1`:                      "extract!range",
		`erase 1`:                         "erase",
		`erase 2`:                         "erase!range",
		`erase 0`:                         "erase!range",
		`iterate 1 1`:                     "iterate=2",
		`iterate 1 0`:                     "iterate=2",
		`iterate 1 4294967295`:            "iterate=2",
		`iterate 1 4294967296`:            "iterate!range",
		`iterate 1 -1`:                    "iterate!range",
		`iterate 99 1`:                    "iterate!range",
		`step 1 yes`:                      "step=2",
		`step 1 no`:                       "step",
		`step 0 yes`:                      "step!range",
		`step 2 yes`:                      "step!range",
		`step -1 no`:                      "step!range",
		`observer 2`:                      "observer=2",
		`observer 0`:                      "observer!range",
		`observer 3`:                      "observer!range",
		`observer -1`:                     "observer!range",
		`observe 1 1 1`:                   "observe",
		`observe 1 1 0`:                   "observe!type",
		`observe 1 1 2`:                   "observe!type",
		`observe 1 1 -1`:                  "observe!type",
		`observe 1 1 64`:                  "observe!type",
		`observe 1 1 65`:                  "observe",
		`observe 0 1 1`:                   "observe!range",
		`observe 2 1 0`:                   "observe!range",
		`observe 1 0 0`:                   "observe!range",
		`take 1`:                          "take",
		`take 0`:                          "take!range",
		`take 2`:                          "take!range",
		`disconnect 1`:                    "disconnect",
		`disconnect 2`:                    "disconnect!range",
		`disconnect -1`:                   "disconnect!range",
	})
}

// OpRange, OpExtract, OpErase: where ranges are then.
func TestRanges(t *testing.T) {
	at := func(node, offset int) api.Bound { return api.Bound{Node: node, Offset: offset} }
	w := begun(t, `element "p" ""; insert 2 1 0; text "ab"; insert 3 2 0; text "cd"; insert 4 2 0; range 3 1 4 1; range 2 0 2 2; range 3 0 3 2`)
	for command, want := range map[string][]api.Range{
		`extract 1`:      {{Start: at(2, 1), End: at(2, 1)}, {Start: at(2, 0), End: at(2, 2)}, {Start: at(3, 0), End: at(3, 1)}},
		`erase 1`:        {{Start: at(2, 1), End: at(2, 1)}, {Start: at(2, 0), End: at(2, 2)}, {Start: at(3, 0), End: at(3, 1)}},
		`extract 3`:      {{Start: at(3, 0), End: at(4, 1)}, {Start: at(2, 0), End: at(2, 2)}, {Start: at(3, 0), End: at(3, 0)}},
		`erase 2`:        {{Start: at(2, 0), End: at(2, 0)}, {Start: at(2, 0), End: at(2, 0)}, {Start: at(2, 0), End: at(2, 0)}},
		`remove 3 2`:     {{Start: at(2, 0), End: at(4, 1)}, {Start: at(2, 0), End: at(2, 1)}, {Start: at(2, 0), End: at(2, 0)}},
		`split 4 0`:      {{Start: at(3, 1), End: at(5, 1)}, {Start: at(2, 0), End: at(2, 3)}, {Start: at(3, 0), End: at(3, 2)}},
		`normalize 2`:    {{Start: at(3, 1), End: at(3, 3)}, {Start: at(2, 0), End: at(2, 1)}, {Start: at(3, 0), End: at(3, 2)}},
		`data 3 0 1 ""`:  {{Start: at(3, 0), End: at(4, 1)}, {Start: at(2, 0), End: at(2, 2)}, {Start: at(3, 0), End: at(3, 1)}},
		`range 1 0 1 1`:  {{Start: at(3, 1), End: at(4, 1)}, {Start: at(2, 0), End: at(2, 2)}, {Start: at(3, 0), End: at(3, 2)}, {Start: at(1, 0), End: at(1, 1)}},
		`content 3 "zz"`: {{Start: at(3, 0), End: at(4, 1)}, {Start: at(2, 0), End: at(2, 2)}, {Start: at(3, 0), End: at(3, 0)}},
	} {
		f := w.Fork()
		if _, why := f.Do(commands(t, command)[0]); why != api.OK || !slices.Equal(f.State().Ranges, want) {
			t.Errorf("%s: %v; want %v", command, f.State().Ranges, want)
		}
	}
}

// OpIterate, OpStep: there and back, by what is shown, and past what is removed meanwhile.
func TestIterators(t *testing.T) {
	put := `element "p" ""; insert 2 1 0; text "ab"; insert 3 2 0; element "b" ""; insert 4 2 0; `
	wasPut := "element=2; insert; text=3; insert; element=4; insert; "
	wantTrace(t, "all", wasPut+"iterate=1; step=1; step=2; step=3; step=4; step; step=4; step=3; step=2; step=1; step",
		put+"iterate 1 4294967295; step 1 yes; step 1 yes; step 1 yes; step 1 yes; step 1 yes; step 1 no; step 1 no; step 1 no; step 1 no; step 1 no")
	wantTrace(t, "texts", wasPut+"iterate=1; step=3; step; step=3; step", put+"iterate 1 4; step 1 yes; step 1 yes; step 1 no; step 1 no")
	wantTrace(t, "two", wasPut+"iterate=1; iterate=2; step=2; step=4; step=2; step=4; step", put+"iterate 1 1; iterate 2 1; step 1 yes; step 1 yes; step 2 yes; step 2 yes; step 2 yes")
	wantTrace(t, "removed", wasPut+"iterate=1; step=1; step=2; step=3; remove; step=4", put+"iterate 1 4294967295; step 1 yes; step 1 yes; step 1 yes; remove 3 2; step 1 yes")
}

// OpObserve: each bit, by what an observer is told of.
func TestObserveBits(t *testing.T) {
	put := `element "p" ""; insert 2 1 0; text "ab"; insert 3 2 0; observer 1; `
	for bits, want := range map[int]string{
		1:         "2 0 0 0",
		3:         "2 1 0 0",
		4:         "0 0 1 0",
		5:         "2 0 1 0",
		7:         "2 1 1 0",
		8:         "0 0 0 0",
		10:        "0 0 0 1",
		11:        "2 1 0 1",
		15:        "2 1 1 1",
		16:        "0 0 1 0",
		17:        "2 0 1 0",
		32:        "0 0 0 0",
		34:        "0 0 0 1",
		48:        "0 0 1 0",
		63:        "2 1 1 1",
		64 + 4:    "0 0 1 0",
		1<<62 + 1: "2 0 0 0",
	} {
		w := begun(t, put+"observe 1 2 "+strconv.Itoa(bits), "")
		var told []string
		for _, command := range []string{`element "b" ""; insert 4 2 0; insert 4 2 3`, `element "i" ""; insert 5 4 0`, `setattr 2 "id" "v"`, `data 3 0 1 "zz"`} {
			n := 0
			for _, c := range commands(t, command) {
				l, _ := w.Do(c)
				for _, m := range l {
					if m.Because == api.BecauseRecords {
						n += m.Value
					}
				}
			}
			told = append(told, strconv.Itoa(min(n, 2)))
		}
		if got := strings.Join(told, " "); got != want {
			t.Errorf("bits %d: %s; want %s", bits, got, want)
		}
	}
	for bits, want := range map[int]string{
		0: "observe!type", 2: "observe!type", -1: "observe!type", math.MinInt: "observe!type", -1 << 40: "observe!type", 64: "observe!type", 16 + 2: "observe", 32 + 16: "observe",
	} {
		wantOp(t, begun(t, put, ""), api.Command{Op: api.OpObserve, A: 1, B: 2, N: bits}, want)
	}
	regs := begun(t, put+"observe 1 2 63", "").State().Watch.Regs
	want := api.Options{Kids: true, Subtree: true, Attrs: api.SaidYes, Data: api.SaidYes, OldAttr: api.SaidYes, OldData: api.SaidYes}
	if len(regs) != 1 || !sample.SameOptions(regs[0].Options, want) {
		t.Error("all bits:", regs)
	}
	regs = begun(t, put+"observe 1 2 1", "").State().Watch.Regs
	if len(regs) != 1 || !sample.SameOptions(regs[0].Options, api.Options{Kids: true}) {
		t.Error("Kids alone:", regs)
	}
}

// What the commands do: of what is no op, whatever its fields.
func TestNoOp(t *testing.T) {
	w := stage(t)
	for op := range 256 {
		if op > 0 && op < int(api.OpCount) {
			continue
		}
		wantOp(t, w, api.Command{Op: api.Op(op)}, "?!type")
		f := w.Fork()
		l, _ := f.Do(api.Command{Op: api.Op(op), A: 2, B: 1, N: 1, M: 1, S: "x", T: "y", Yes: true})
		if len(l) != 1 || l[0] != (api.Mark{Kind: api.MarkDone, Op: api.Op(op), Why: api.ErrType}) {
			t.Error(op, l)
		}
	}
}

// What the commands do: fields that an op has not are no matter.
func TestFieldsThatAreNot(t *testing.T) {
	w := stage(t)
	full := api.Command{A: 99, B: -1, C: 99, N: 1 << 40, M: -7, S: "\x00", T: "9", Data: api.Units{1}, List: []int{-1}, Names: []string{""}, Yes: true}
	for op, want := range map[api.Op]string{api.OpFragment: "fragment=10", api.OpSignal: "signal=3"} {
		full.Op = op
		wantOp(t, w, full, want)
	}
	wantOp(t, w, api.Command{Op: api.OpRemove, A: 4, B: 3, C: 99, N: -1, M: -1, S: "1"}, "remove")
	wantOp(t, w, api.Command{Op: api.OpObserver, A: 99, N: 2, M: -1}, "observer=2")
	wantOp(t, w, api.Command{Op: api.OpText, A: 99, Data: api.Units{'a'}, S: "1", T: strings.Repeat("a", api.MaxName+1)}, "text=10")
}

// OpSplit, OpIterate, OpData: numbers of 32 bits are handed on as they are.
func TestNumbersOf32Bits(t *testing.T) {
	w := stage(t)
	f := wantOp(t, w, api.Command{Op: api.OpIterate, A: 1, N: 1<<32 - 1}, "iterate=2")
	g := wantOp(t, w, api.Command{Op: api.OpIterate, A: 1, N: 1 << 31}, "iterate=2")
	if a, b := f.State().Iterators[1].Filter.Show, g.State().Iterators[1].Filter.Show; a != api.ShowAll || b != 1<<31 {
		t.Error(a, b)
	}
	for _, n := range []int{1 << 32, 1<<32 + 1, 1 << 40, math.MaxInt, -1, math.MinInt} {
		for _, c := range []api.Command{{Op: api.OpIterate, A: 1, N: n}, {Op: api.OpSplit, A: 4, N: n}, {Op: api.OpData, A: 4, N: n}, {Op: api.OpData, A: 4, M: n}} {
			if l, _ := w.Fork().Do(c); l[0].Why != api.ErrRange {
				t.Error(c, l)
			}
		}
	}
}
