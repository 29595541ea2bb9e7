package find

import (
	"iter"
	"slices"

	"canopy/api"
	"canopy/forest"
	"canopy/order"
	"canopy/tokens"
	"canopy/units"
)

// star is the name, and the namespace, that each element has.
const star = "*"

// fit tells whether an element is one of those that are looked for.
type fit func(api.Node) bool

// missing is why a node can't be asked: the forest is not right, or there is no such node.
func missing(f api.Forest, h int) api.Errno {
	if why, _ := forest.Check(f); why != api.OK {
		return why
	}
	if !there(f, h) {
		return api.ErrRange
	}
	return api.OK
}

func there(f api.Forest, h int) bool { return h >= 1 && h <= len(f.Nodes) }

func isElement(f api.Forest, h int) bool { return there(f, h) && f.Nodes[h-1].Kind == api.KindElement }

// elements yields those of some nodes that are elements.
func elements(f api.Forest, some []int) iter.Seq[int] {
	return func(yield func(int) bool) {
		for _, h := range some {
			if isElement(f, h) && !yield(h) {
				return
			}
		}
	}
}

// within yields the elements within a root, which is none of them, in tree order.
func within(f api.Forest, root int) (iter.Seq[int], api.Errno) {
	all, why := order.All(f, root)
	if why != api.OK {
		return nil, why
	}
	return elements(f, all[1:]), api.OK
}

// found are the elements within a root that fit.
func found(f api.Forest, root int, fits fit) ([]int, api.Errno) {
	all, why := within(f, root)
	if why != api.OK {
		return nil, why
	}
	var l []int
	for h := range all {
		if fits(f.Nodes[h-1]) {
			l = append(l, h)
		}
	}
	return l, api.OK
}

// first is the first one of some elements that fits, 0 if there is none.
func first(f api.Forest, some iter.Seq[int], fits fit) int {
	for h := range some {
		if fits(f.Nodes[h-1]) {
			return h
		}
	}
	return 0
}

// tagged fits what has a tag. Whose document it is may be asked of each element: all within a root have the root's.
func tagged(f api.Forest, tag string) fit {
	small := units.Lower(tag)
	return func(n api.Node) bool {
		switch {
		case tag == star:
			return true
		case n.Name.Space == api.SpaceHTML && f.Nodes[n.Doc-1].HTML:
			return qualified(n.Name) == small
		}
		return qualified(n.Name) == tag
	}
}

func qualified(n api.Name) string {
	if n.Prefix == "" {
		return n.Local
	}
	return n.Prefix + ":" + n.Local
}

// classed fits what has all of some classes, if there are any. Since an element has each of its tokens once, those that are wanted need but be counted.
func classed(classes string) fit {
	wanted := map[string]struct{}{}
	for _, class := range units.Split(classes) {
		wanted[class] = struct{}{}
	}
	return func(n api.Node) bool {
		has := 0
		for _, class := range classesOf(n) {
			if _, is := wanted[class]; is {
				has++
			}
		}
		return has > 0 && has == len(wanted)
	}
}

// classesOf are the tokens of an element's class attribute. They are asked of a forest that has this attribute alone: tokens goes over all of a forest each time, and here each of its elements is asked.
func classesOf(n api.Node) []string {
	at := slices.IndexFunc(n.Attrs, plain("class"))
	if at < 0 {
		return nil
	}
	f := forest.New(false)
	alone := api.Node{Kind: api.KindElement, Name: n.Name, Attrs: n.Attrs[at : at+1], Doc: 1}
	f.Nodes = append(f.Nodes, alone)
	l, _ := tokens.List(f, 2, "class")
	return l
}

// plain tells of an attribute whether it has a local name, and no namespace.
func plain(local string) func(api.Attr) bool {
	name := api.Name{Local: local}
	return func(a api.Attr) bool { return a.Name == name }
}

// having fits what has a value, which is not empty, in an attribute without a namespace.
func having(local, value string) fit {
	is := plain(local)
	return func(n api.Node) bool {
		return value != "" && slices.ContainsFunc(n.Attrs, func(a api.Attr) bool { return is(a) && a.Value == value })
	}
}
