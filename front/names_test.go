package front_test

import (
	"math"
	"testing"

	"canopy/api"
	"canopy/front"
	"canopy/script"
)

// names are the chapter's.
func names() map[api.Errno]string {
	return map[api.Errno]string{
		0: "ok", 1: "nil", 2: "range", 3: "many", 4: "long", 5: "forest", 10: "HierarchyRequestError", 11: "NotFoundError", 12: "InvalidCharacterError",
		13: "NamespaceError", 14: "IndexSizeError", 15: "InvalidStateError", 16: "InUseAttributeError", 17: "NotSupportedError", 18: "WrongDocumentError",
		19: "InvalidNodeTypeError", 20: "SyntaxError", 21: "AbortError", 22: "TimeoutError", 23: "TypeError",
	}
}

// reasons are the chapter's.
func reasons() map[api.Because]string {
	return map[api.Because]string{
		1: "event", 2: "records", 3: "micro", 4: "task", 5: "construct", 6: "connected", 7: "disconnected", 8: "adopted", 9: "changed",
	}
}

// P30.1: every error's name, and every reason, and "" of other numbers.
func TestNames(t *testing.T) {
	for n := -300; n < 600; n++ {
		if got := front.Name(api.Errno(n)); got != names()[api.Errno(n)] {
			t.Errorf("Name(%d): %q", n, got)
		}
	}
	for _, n := range []api.Errno{math.MinInt, math.MaxInt, 1 << 32, 1<<32 + 2, 256 + 2, -1 << 32} {
		if got := front.Name(n); got != "" {
			t.Errorf("Name(%d): %q", n, got)
		}
	}
	for n := range 256 {
		if got := front.Reason(api.Because(n)); got != reasons()[api.Because(n)] {
			t.Errorf("Reason(%d): %q", n, got)
		}
	}
	if len(names()) != 20 || len(reasons()) != int(api.BecauseCount)-1 {
		t.Error("not all are asked for")
	}
}

// P30.1, Words (a mark's line): of each kind; what the kind has not is no matter.
func TestLines(t *testing.T) {
	for want, m := range map[string]api.Mark{
		`done element ok 2 ""`:                                  {Kind: api.MarkDone, Op: api.OpElement, Value: 2},
		`done insert HierarchyRequestError 0 ""`:                {Kind: api.MarkDone, Op: api.OpInsert, Why: api.ErrHierarchy},
		`done get ok 1 "a\"b\\c"`:                               {Kind: api.MarkDone, Op: api.OpGet, Value: 1, Text: `a"b\c`},
		`done dump ok 0 "#document\x0a  <p>\x0a"`:               {Kind: api.MarkDone, Op: api.OpDump, Text: "#document\n  <p>\n"},
		`done get ok -9223372036854775808 "\x00\x1f ~\x7f\xff"`: {Kind: api.MarkDone, Op: api.OpGet, Value: math.MinInt, Text: "\x00\x1f ~\x7f\xff"},
		`done get ok 9223372036854775807 "\xc3\xa9"`:            {Kind: api.MarkDone, Op: api.OpGet, Value: math.MaxInt, Text: "é"},
		`done ? TypeError 0 ""`:                                 {Kind: api.MarkDone, Why: api.ErrType},
		`done ? ? -1 " "`:                                       {Kind: api.MarkDone, Op: api.OpCount, Why: 6, Value: -1, Text: " "},
		`done ? ok 1 ""`:                                        {Kind: api.MarkDone, Op: 255, Value: 1, Program: 7, Because: 3, Node: 9},
		`done tick ? 0 ""`:                                      {Kind: api.MarkDone, Op: api.OpTick, Why: -1},
		`enter 1 event 2 3`:                                     {Kind: api.MarkEnter, Program: 1, Because: api.BecauseEvent, Node: 2, Value: 3},
		`enter -1 ? -2 -3`:                                      {Kind: api.MarkEnter, Program: -1, Node: -2, Value: -3, Text: "x", Why: 2, Op: 3},
		`enter 0 ? 0 0`:                                         {Kind: api.MarkEnter, Because: api.BecauseCount},
		`leave 3 ok`:                                            {Kind: api.MarkLeave, Program: 3},
		`leave 3 many`:                                          {Kind: api.MarkLeave, Program: 3, Why: api.ErrMany, Op: 3, Value: 4, Text: "x", Because: 1, Node: 2},
		`leave -3 ?`:                                            {Kind: api.MarkLeave, Program: -3, Why: 24},
		`exhausted`:                                             {Kind: api.MarkExhausted, Op: 3, Value: 4, Text: "x", Because: 1, Node: 2, Program: 1, Why: 1},
		``:                                                      {Op: 3, Value: 4, Text: "x", Because: 1, Node: 2, Program: 1, Why: 1},
	} {
		if got := front.Line(m); got != want {
			t.Errorf("%+v: %s; want %s", m, got, want)
		}
	}
	for kind := range 256 {
		is := kind >= int(api.MarkDone) && kind <= int(api.MarkExhausted)
		if got := front.Line(api.Mark{Kind: api.MarkKind(kind), Op: 1}); (got != "") != is {
			t.Errorf("the kind %d: %q", kind, got)
		}
	}
	for op := range 256 {
		word := script.Word(api.Op(op))
		if word == "" {
			word = "?"
		}
		for why := range 30 {
			name := names()[api.Errno(why)]
			if name == "" {
				name = "?"
			}
			if got, want := front.Line(api.Mark{Kind: api.MarkDone, Op: api.Op(op), Why: api.Errno(why)}), "done "+word+" "+name+` 0 ""`; got != want {
				t.Errorf("%s; want %s", got, want)
			}
		}
	}
	for b := range 256 {
		reason := reasons()[api.Because(b)]
		if reason == "" {
			reason = "?"
		}
		if got, want := front.Line(api.Mark{Kind: api.MarkEnter, Because: api.Because(b)}), "enter 0 "+reason+" 0 0"; got != want {
			t.Errorf("%s; want %s", got, want)
		}
	}
}

// P30.1: a Text has the text that script gives it, whatever its length.
func TestLineOfLongTexts(t *testing.T) {
	for b := range 256 {
		s := "a" + string([]byte{byte(b)}) + "z"
		line, _ := script.Line(api.Command{Op: api.OpFind, S: s})
		if got, want := front.Line(api.Mark{Kind: api.MarkDone, Op: api.OpDump, Text: s}), "done dump ok 0 "+line[len("find 0 "):]; got != want {
			t.Errorf("%s; want %s", got, want)
		}
	}
	if got := front.Line(api.Mark{Kind: api.MarkDone, Op: api.OpDump, Text: string(make([]byte, 1<<20))}); len(got) != len(`done dump ok 0 ""`)+4<<20 {
		t.Error(len(got))
	}
}
