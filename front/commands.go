package front

import (
	"strconv"
	"strings"

	"canopy/api"
	"canopy/forest"
	"canopy/script"
	"canopy/world"
)

// command is how many arguments and files a command takes, and what it puts out.
type command struct {
	arguments, files int
	puts             func(s api.Script, arguments []string) (string, api.Errno)
}

func commands() map[string]command {
	return map[string]command{
		"words": {0, 0, putWords},
		"text":  {0, 1, putText},
		"count": {0, 1, putCount},
		"run":   {0, 1, putRun},
		"state": {0, 1, putState},
		"tree":  {1, 1, putTree},
	}
}

// commandOf is the command that a command line asks for, or what is wrong with that. All arguments that there are are handles.
func commandOf(args, files []string) (command, string) {
	if len(args) == 0 {
		return command{}, "command"
	}
	c, is := commands()[args[0]]
	arguments := args[1:]
	switch {
	case !is:
		return command{}, "command"
	case len(arguments) != c.arguments:
		return command{}, "arguments"
	}
	for i, a := range arguments {
		if !isHandle(a) {
			return command{}, words("argument", strconv.Itoa(i+1))
		}
	}
	if len(files) != c.files {
		return command{}, "files"
	}
	return c, ""
}

// mostDigits is how many a handle has at most.
const mostDigits = 9

// isHandle tells whether a text is what Itoa writes of a number that is not below 0.
func isHandle(s string) bool {
	n, err := strconv.Atoi(s)
	return err == nil && n >= 0 && len(s) <= mostDigits && strconv.Itoa(n) == s
}

func putWords(api.Script, []string) (string, api.Errno) {
	var p page
	for op := api.OpNone; op < api.OpCount; op++ {
		if word := script.Word(op); word != "" {
			p.line(word)
		}
	}
	return p.told()
}

func putText(s api.Script, _ []string) (string, api.Errno) { return script.Print(s) }

func putCount(s api.Script, _ []string) (string, api.Errno) {
	var p page
	p.line(strconv.Itoa(script.Count(s)), strconv.Itoa(len(s.Programs)))
	return p.told()
}

func putRun(s api.Script, _ []string) (string, api.Errno) {
	marks, _, why := world.Run(s)
	if why != api.OK {
		return "", why
	}
	var p page
	for i := 0; i < len(marks) && !p.long; i++ {
		p.line(Line(marks[i]))
	}
	return p.told()
}

func putState(s api.Script, _ []string) (string, api.Errno) {
	_, state, why := world.Run(s)
	if why != api.OK {
		return "", why
	}
	var p page
	for _, x := range []struct {
		word  string
		count int
	}{
		{"nodes", len(state.Forest.Nodes)}, {"ranges", len(state.Ranges)}, {"iterators", len(state.Iterators)},
		{"listeners", len(state.Listeners.List)}, {"signals", len(state.Signals)},
		{"definitions", len(state.Registry.Definitions)}, {"observers", len(state.Watch.Queues)}, {"fuel", state.Fuel},
	} {
		p.line(x.word, strconv.Itoa(x.count))
	}
	exhausted := "no"
	if state.Exhausted {
		exhausted = "yes"
	}
	p.line("exhausted", exhausted)
	return p.told()
}

func putTree(s api.Script, arguments []string) (string, api.Errno) {
	_, state, why := world.Run(s)
	if why != api.OK {
		return "", why
	}
	h, _ := strconv.Atoi(arguments[0])
	return forest.Print(state.Forest, h)
}

// page is what goes out, as long as it is not too much.
type page struct {
	text strings.Builder
	long bool
}

// line puts words on a line of their own.
func (p *page) line(all ...string) {
	text := words(all...)
	p.long = p.long || len(text)+len("\n") > api.MaxOut-p.text.Len()
	if !p.long {
		p.text.WriteString(text)
		p.text.WriteString("\n")
	}
}

func (p *page) told() (string, api.Errno) {
	if p.long {
		return "", api.ErrLong
	}
	return p.text.String(), api.OK
}
