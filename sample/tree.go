package sample

import (
	"canopy/api"
	"canopy/forest"
)

// Tree is a document with what a text writes out: a letter is an element of that name, # a text, - a comment; what stands in brackets lies within the node ahead of them. The handles rise from 2 on, as the nodes are written.
func Tree(text string) api.Forest {
	f := forest.New(false)
	open := []int{1}
	for _, r := range text {
		switch {
		case r == '(':
			open = append(open, len(f.Nodes))
		case r == ')' && len(open) > 1:
			open = open[:len(open)-1]
		case r == '#':
			hang(&f, open[len(open)-1], api.Node{Kind: api.KindText})
		case r == '-':
			hang(&f, open[len(open)-1], api.Node{Kind: api.KindComment})
		case r >= 'a' && r <= 'z':
			hang(&f, open[len(open)-1], api.Node{Kind: api.KindElement, Name: api.Name{Local: string(r)}})
		}
	}
	return f
}

// hang has a node more, the last kid of a parent.
func hang(f *api.Forest, parent int, n api.Node) {
	n.Doc, n.Parent = 1, parent
	f.Nodes = append(f.Nodes, n)
	f.Nodes[parent-1].Kids = append(f.Nodes[parent-1].Kids, len(f.Nodes))
}

// Thick is a forest that is grown, of n nodes, which hang in one another as far as chance has it.
func Thick(d *Dice, n int) api.Forest {
	f := Grow(d, n)
	for range 8 * n {
		f = tried(f, Insertion(d, f))
	}
	return f
}

// Filter is one that is not wrong, with some rules for what Grow grows: most of them show all.
func Filter(d *Dice) api.Filter {
	t := api.Filter{Show: api.ShowAll}
	if d.Below(4) == 0 {
		t.Show = uint32(d.Below(1 << 12))
	}
	for range d.Below(7) {
		t.Rules = append(t.Rules, rule(d))
	}
	return t
}

func rule(d *Dice) api.Rule {
	r := api.Rule{Verdict: api.VerdictAccept + api.Verdict(d.Below(3))}
	if d.Below(2) == 0 {
		r.Local = word(d)
	}
	if r.Local == "" || d.Below(2) == 0 {
		kinds := []api.NodeKind{api.KindElement, api.KindElement, api.KindText, api.KindText, api.KindComment, api.KindDocument, api.KindShadow}
		r.Kind = kinds[d.Below(len(kinds))]
	}
	return r
}
