package sample

import (
	"strings"

	"canopy/api"
	"canopy/forest"
)

// Tree is a document with what a text writes out: a letter is an element of that name, / a slot, # a text, = a CDATA, - a comment, ? an instruction, ! a doctype, ~ a fragment, which hangs nowhere; what stands in quotes are the data of the node ahead of them, what stands in brackets lies within it: in (), or in its shadow root, an open one in {}, a closed one in [], with * for a Manual one. A letter behind . is the name of the node ahead of it, one behind : the name of its slot. The handles rise from 2 on, as the nodes are written.
func Tree(text string) api.Forest {
	t := tree{forest: forest.New(false), open: []int{1}, last: 1}
	for _, r := range text {
		t.read(r)
	}
	return t.forest
}

// tree is how far a text is read: the nodes that are open, the one that what comes next is told of, and what its attribute is.
type tree struct {
	forest api.Forest
	open   []int
	last   int
	quoted bool
	attr   string
}

func (t *tree) node(h int) *api.Node { return &t.forest.Nodes[h-1] }

func (t *tree) within() int { return t.open[len(t.open)-1] }

func (t *tree) read(r rune) {
	last := t.node(t.last)
	switch {
	case r == '"':
		t.quoted = !t.quoted
	case t.quoted:
		last.Data = append(last.Data, uint16(r))
	case t.attr != "":
		last.Attrs = append(last.Attrs, api.Attr{Name: api.Name{Local: t.attr}, Value: string(r)})
		t.attr = ""
	case r == ':':
		t.attr = "slot"
	case r == '.':
		t.attr = "name"
	case r == '*':
		t.node(t.within()).Manual = true
	case strings.ContainsRune("({[", r):
		t.begin(r)
	case strings.ContainsRune(")}]", r):
		t.end()
	default:
		t.put(r)
	}
}

// put has the node that a sign stands for, if it stands for one.
func (t *tree) put(r rune) {
	n, is := written(r)
	switch {
	case is && n.Kind == api.KindFragment:
		n.Doc = 1
		t.forest.Nodes = append(t.forest.Nodes, n)
	case is:
		hang(&t.forest, t.within(), n)
	default:
		return
	}
	t.last = len(t.forest.Nodes)
}

// begin has what comes next lie in the last node, or in a shadow root of it.
func (t *tree) begin(r rune) {
	h := t.last
	if r != '(' {
		root := api.Node{Kind: api.KindShadow, Mode: api.ShadowOpen, Host: h, Doc: 1}
		if r == '[' {
			root.Mode = api.ShadowClosed
		}
		t.forest.Nodes = append(t.forest.Nodes, root)
		t.node(h).Shadow = len(t.forest.Nodes)
		h = len(t.forest.Nodes)
	}
	t.open = append(t.open, h)
}

// end has what comes next be told of the node that is open no more: of a shadow root's host.
func (t *tree) end() {
	if len(t.open) == 1 {
		return
	}
	t.last = t.within()
	if host := t.node(t.last).Host; host != 0 {
		t.last = host
	}
	t.open = t.open[:len(t.open)-1]
}

// written is the node that a sign stands for.
func written(r rune) (api.Node, bool) {
	switch r {
	case '#':
		return api.Node{Kind: api.KindText}, true
	case '=':
		return api.Node{Kind: api.KindCData}, true
	case '-':
		return api.Node{Kind: api.KindComment}, true
	case '?':
		return api.Node{Kind: api.KindInstruction, Name: api.Name{Local: "i"}}, true
	case '!':
		return api.Node{Kind: api.KindDoctype, Name: api.Name{Local: "d"}}, true
	case '/':
		return api.Node{Kind: api.KindElement, Name: api.Name{Space: api.SpaceHTML, Local: "slot"}}, true
	case '~':
		return api.Node{Kind: api.KindFragment}, true
	}
	return api.Node{Kind: api.KindElement, Name: api.Name{Local: string(r)}}, r >= 'a' && r <= 'z'
}

// hang has a node more, the last kid of a parent.
func hang(f *api.Forest, parent int, n api.Node) {
	n.Doc, n.Parent = 1, parent
	f.Nodes = append(f.Nodes, n)
	f.Nodes[parent-1].Kids = append(f.Nodes[parent-1].Kids, len(f.Nodes))
}

// Flat is a document with an element that has so many texts that there are n nodes.
func Flat(n int) api.Forest {
	f := Tree("a")
	for len(f.Nodes) < n {
		hang(&f, 2, api.Node{Kind: api.KindText})
	}
	return f
}

// Deep is a document with elements, each within the one ahead of it, so that there are n nodes.
func Deep(n int) api.Forest {
	f := Tree("a")
	for len(f.Nodes) < n {
		hang(&f, len(f.Nodes), api.Node{Kind: api.KindElement, Name: api.Name{Local: "b"}})
	}
	return f
}

// Torn are forests that are not right, each for a reason of its own.
func Torn() []api.Forest {
	var l []api.Forest
	for _, tear := range []func(f *api.Forest){
		func(f *api.Forest) { f.Nodes[1].Doc = 0 },
		func(f *api.Forest) { f.Nodes[1].Kids[0] = 99 },
		func(f *api.Forest) { f.Nodes[1].Kids[0] = 2 },
		func(f *api.Forest) { f.Nodes[1].Kids = append(f.Nodes[1].Kids, 3) },
		func(f *api.Forest) { f.Nodes[1].Parent = 3 },
		func(f *api.Forest) { f.Nodes[1].Parent = -1 },
		func(f *api.Forest) { f.Nodes[1].Kind = 2 },
		func(f *api.Forest) { f.Nodes[3].Kids = []int{2} },
		func(f *api.Forest) { f.Nodes[3].Shadow = 3 },
		func(f *api.Forest) { f.Nodes[2].Data = api.Units{'x'} },
		func(f *api.Forest) { *f = Flat(api.MaxNodes + 1) },
	} {
		f := Tree("a(b c)")
		tear(&f)
		l = append(l, f)
	}
	return l
}

// Thick is a forest that is grown, of n nodes, which hang in one another as far as chance has it.
func Thick(d *Dice, n int) api.Forest {
	f := Grow(d, n)
	for range 8 * n {
		f = tried(f, Insertion(d, f))
	}
	return f
}

// Filter is one that is not wrong, with some rules for what Grow grows: most of them show all.
func Filter(d *Dice) api.Filter {
	t := api.Filter{Show: api.ShowAll}
	if d.Below(4) == 0 {
		t.Show = uint32(d.Below(1 << 12))
	}
	for range d.Below(7) {
		t.Rules = append(t.Rules, rule(d))
	}
	return t
}

func rule(d *Dice) api.Rule {
	r := api.Rule{Verdict: api.VerdictAccept + api.Verdict(d.Below(3))}
	if d.Below(2) == 0 {
		r.Local = word(d)
	}
	if r.Local == "" || d.Below(2) == 0 {
		kinds := []api.NodeKind{api.KindElement, api.KindElement, api.KindText, api.KindText, api.KindComment, api.KindDocument, api.KindShadow}
		r.Kind = kinds[d.Below(len(kinds))]
	}
	return r
}

// Text writes out what lies within a node, so that Tree of it is the same once more: of names and data that Tree can have.
func Text(f api.Forest, h int) string {
	var words []string
	for _, kid := range f.Nodes[h-1].Kids {
		words = append(words, wordOf(f, kid))
	}
	return strings.Join(words, " ")
}

func wordOf(f api.Forest, h int) string {
	n := f.Nodes[h-1]
	word := signOf(n)
	if len(n.Data) > 0 {
		word += `"` + letters(n.Data) + `"`
	}
	if len(n.Kids) > 0 {
		word += "(" + Text(f, h) + ")"
	}
	return word
}

func signOf(n api.Node) string {
	switch n.Kind {
	case api.KindText:
		return "#"
	case api.KindCData:
		return "="
	case api.KindComment:
		return "-"
	case api.KindInstruction:
		return "?"
	case api.KindDoctype:
		return "!"
	}
	return n.Name.Local
}

func letters(u api.Units) string {
	var text strings.Builder
	for _, unit := range u {
		text.WriteRune(rune(unit))
	}
	return text.String()
}
