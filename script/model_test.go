package script_test

import (
	"fmt"
	"reflect"
	"regexp"
	"strconv"
	"strings"

	"canopy/api"
)

// columns is the chapter's table of words and fields, column by column.
const columns = `
element | S T
text | Data
comment | Data
fragment |
clone | A Yes
attach | A N Yes
insert | A B C
replace | A B C
remove | A B
normalize | A
content | A Data
assign | A List
data | A N M Data
split | A N
setattr | A S T
delattr | A S
toggle | A S N
range | A N B M
extract | A
erase | A
iterate | A N
step | A Yes
observer | N
observe | A B N
take | A
disconnect | A
listen | A S N M B
unlisten | A S N M
dispatch | A S N
effect | N
signal |
abort | A N
any | List
define | S T List Names
task | N M
micro | M
timer | N M
clear | A
tick | N
turn | N
ask | A N
get | A S
find | A S
dump | A
`

// entry is a word, and its fields.
type entry struct {
	word   string
	fields []string
}

// entries are those of the table, by their ops; that of OpNone is empty.
func entries() []entry {
	l := []entry{{}}
	for _, line := range strings.Split(strings.TrimSpace(columns), "\n") {
		word, fields, _ := strings.Cut(line, "|")
		l = append(l, entry{strings.TrimSpace(word), strings.Fields(fields)})
	}
	return l
}

// modelText is a field's text, as the words have it.
func modelText(v any) string {
	signs := func(n int, at func(int) int, form string) string {
		text := ""
		for i := range n {
			switch sign := at(i); {
			case sign == 34 || sign == 92:
				text += `\` + string(rune(sign))
			case sign >= 32 && sign <= 126:
				text += string(rune(sign))
			default:
				text += fmt.Sprintf(form, sign)
			}
		}
		return `"` + text + `"`
	}
	switch x := v.(type) {
	case bool:
		return map[bool]string{true: "yes", false: "no"}[x]
	case string:
		return signs(len(x), func(i int) int { return int(x[i]) }, `\x%02x`)
	case api.Units:
		return signs(len(x), func(i int) int { return int(x[i]) }, `\u%04x`)
	case []int:
		return fmt.Sprint(x)
	case []string:
		var l []string
		for _, s := range x {
			l = append(l, modelText(s))
		}
		return "[" + strings.Join(l, " ") + "]"
	}
	return fmt.Sprint(v)
}

// modelLine is the line of a command whose op is one.
func modelLine(c api.Command) string {
	e := entries()[c.Op]
	line := e.word
	for _, name := range e.fields {
		line += " " + modelText(reflect.ValueOf(c).FieldByName(name).Interface())
	}
	return line
}

// modelPlain has the fields alone that the op has.
func modelPlain(c api.Command) api.Command {
	p := api.Command{Op: c.Op}
	if c.Op < api.OpCount {
		for _, name := range entries()[c.Op].fields {
			reflect.ValueOf(&p).Elem().FieldByName(name).Set(reflect.ValueOf(c).FieldByName(name))
		}
	}
	return p
}

// modelPrint is the text of a script.
func modelPrint(s api.Script) string {
	text := "fuel " + strconv.Itoa(s.Fuel) + "\n"
	for _, l := range s.Programs {
		text += "program\n"
		for _, c := range l {
			text += modelLine(c) + "\n"
		}
		text += "end\n"
	}
	text += "main\n"
	for _, c := range s.Commands {
		text += modelLine(c) + "\n"
	}
	return text
}

// The forms of fields' texts; numbers are held against their bounds besides.
const (
	numberForm = `(?:0|-?[1-9][0-9]*)`
	standing   = `[ !#-\[\]-~]|\\["\\]`
	textForm   = `"(?:` + standing + `|\\x(?:[01][0-9a-f]|7f|[89a-f][0-9a-f]))*"`
	dataForm   = `"(?:` + standing + `|\\u(?:00[01][0-9a-f]|007f|00[89a-f][0-9a-f]|0[1-9a-f][0-9a-f]{2}|[1-9a-f][0-9a-f]{3}))*"`
)

func listForm(item string) string { return `\[(?:` + item + `(?: ` + item + `)*)?\]` }

// forms tells whether texts are commands' lines, by expressions of the table's rows.
type forms struct {
	lines   *regexp.Regexp
	fuel    *regexp.Regexp
	texts   *regexp.Regexp
	numbers *regexp.Regexp
}

func newForms() forms {
	of := map[string]string{
		"S": textForm, "T": textForm, "Data": dataForm, "Yes": "(?:yes|no)", "List": listForm(numberForm), "Names": listForm(textForm),
	}
	var rows []string
	for _, e := range entries()[1:] {
		row := e.word
		for _, name := range e.fields {
			form := of[name]
			if form == "" {
				form = numberForm
			}
			row += " " + form
		}
		rows = append(rows, row)
	}
	return forms{
		lines:   regexp.MustCompile(`\A(?:` + strings.Join(rows, "|") + `)\z`),
		fuel:    regexp.MustCompile(`\Afuel ` + numberForm + `\z`),
		texts:   regexp.MustCompile(`"(?:[^"\\]|\\.)*"`),
		numbers: regexp.MustCompile(`-?[0-9]+`),
	}
}

// bounded tells whether the numbers of a line, outside its texts, are none beyond the bounds.
func (f forms) bounded(line string) bool {
	for _, n := range f.numbers.FindAllString(f.texts.ReplaceAllString(line, `""`), -1) {
		if _, err := strconv.ParseInt(n, 10, 64); err != nil {
			return false
		}
	}
	return true
}

func (f forms) isLine(line string) bool { return f.lines.MatchString(line) && f.bounded(line) }

func (f forms) isFuel(line string) bool { return f.fuel.MatchString(line) && f.bounded(line) }

// fault is what Parse must say of a text, line by line.
func (f forms) fault(text string) (api.Errno, int) {
	if len(text) > api.MaxScript {
		return api.ErrLong, 0
	}
	lines := strings.SplitAfter(text, "\n") // the last one is empty, or has no LF
	state, programs, commands := "fuel", 0, 0
	for i, whole := range lines {
		line, lf := strings.CutSuffix(whole, "\n")
		if !lf {
			if line == "" && state == "main" {
				return api.OK, 0
			}
			return api.ErrSyntax, i + 1
		}
		switch {
		case state == "fuel" && f.isFuel(line):
			state = "programs"
		case state == "programs" && line == "program":
			if state, programs = "program", programs+1; programs > api.MaxPrograms {
				return api.ErrMany, i + 1
			}
		case state == "programs" && line == "main":
			state = "main"
		case state == "program" && line == "end":
			state = "programs"
		case (state == "program" || state == "main") && f.isLine(line):
			if commands++; commands > api.MaxCommands {
				return api.ErrMany, i + 1
			}
		default:
			return api.ErrSyntax, i + 1
		}
	}
	return api.OK, 0
}
