package forest

import (
	"iter"

	"canopy/api"
)

// survey is what must be known of a whole forest ahead of telling which of its nodes are right: asked node by node, long lists of kids would be gone through again and again.
type survey struct {
	forest  api.Forest
	listed  []bool // the node is among the Kids of its Parent
	muddled []bool // one of the node's Kids is none of it, or is there twice
	endless []bool // what is above the node has no end
}

func surveyOf(f api.Forest) survey {
	n := len(f.Nodes)
	s := survey{f, make([]bool, n), make([]bool, n), make([]bool, n)}
	for i := range n {
		s.lookAtKids(i + 1)
	}
	seen := make([]int, n)
	for i := range n {
		s.climb(i+1, seen)
	}
	return s
}

func (s survey) lookAtKids(h int) {
	for _, kid := range node(s.forest, h).Kids {
		if !there(s.forest, kid) || node(s.forest, kid).Parent != h || s.listed[kid-1] {
			s.muddled[h-1] = true
			continue
		}
		s.listed[kid-1] = true
	}
}

// climb goes up from a node as far as nobody was before, and leaves word in seen who was there: who meets himself, or comes where there is no end, has none.
func (s survey) climb(h int, seen []int) {
	at := h
	for there(s.forest, at) && seen[at-1] == 0 {
		seen[at-1] = h
		at = above(s.forest, at)
	}
	if !there(s.forest, at) || seen[at-1] != h && !s.endless[at-1] {
		return
	}
	for at = h; !s.endless[at-1]; at = above(s.forest, at) {
		s.endless[at-1] = true
	}
}

func (s survey) right(h int) bool {
	n := *node(s.forest, h)
	return wellMade(n) && !s.endless[h-1] && !s.muddled[h-1] && s.hangs(h) &&
		rightDoc(s.forest, h) && rightShadow(s.forest, h) && rightKids(s.forest, h)
}

func (s survey) hangs(h int) bool {
	parent := node(s.forest, h).Parent
	return parent == 0 || s.listed[h-1]
}

// rightDoc is asked of a node whose Parent, if it has one, is there.
func rightDoc(f api.Forest, h int) bool {
	n := node(f, h)
	if n.Kind == api.KindDocument {
		return n.Doc == h
	}
	if !isOf(f, n.Doc, api.KindDocument) {
		return false
	}
	up := above(f, h)
	return !there(f, up) || node(f, up).Doc == n.Doc
}

func rightShadow(f api.Forest, h int) bool {
	n := node(f, h)
	if n.Kind == api.KindShadow {
		return isOf(f, n.Host, api.KindElement) && node(f, n.Host).Shadow == h
	}
	return n.Shadow == 0 || isOf(f, n.Shadow, api.KindShadow) && node(f, n.Shadow).Host == h
}

// rightKids is asked of a node whose Kids are all there.
func rightKids(f api.Forest, h int) bool {
	n := node(f, h)
	if n.Kind == api.KindDocument {
		return rightTop(f, n.Kids)
	}
	for _, kid := range n.Kids {
		if !mayBeWithin(node(f, kid).Kind) {
			return false
		}
	}
	return true
}

// rightTop tells whether a document may have these kids.
func rightTop(f api.Forest, kids []int) bool {
	doctype, element := false, false
	for _, kid := range kids {
		switch node(f, kid).Kind {
		case api.KindComment, api.KindInstruction:
		case api.KindDoctype:
			if doctype || element {
				return false
			}
			doctype = true
		case api.KindElement:
			if element {
				return false
			}
			element = true
		default:
			return false
		}
	}
	return true
}

// there tells whether each of some handles is of a node.
func there(f api.Forest, handles ...int) bool {
	for _, h := range handles {
		if h < 1 || h > len(f.Nodes) {
			return false
		}
	}
	return true
}

func isOf(f api.Forest, h int, k api.NodeKind) bool { return there(f, h) && node(f, h).Kind == k }

func node(f api.Forest, h int) *api.Node { return &f.Nodes[h-1] }

// above is what a node hangs on, through shadow trees: a shadow root hangs on its Host.
func above(f api.Forest, h int) int {
	if n := node(f, h); n.Kind == api.KindShadow {
		return n.Host
	}
	return node(f, h).Parent
}

// upFrom yields a node of a right forest, what it hangs on, and so on.
func upFrom(f api.Forest, h int) iter.Seq[int] {
	return func(yield func(int) bool) {
		for at := h; at != 0 && yield(at); at = above(f, at) {
		}
	}
}

// below yields a node of a right forest and all below it, each ahead of its shadow root, and that ahead of its kids; and how deep they lie.
func below(f api.Forest, h int) iter.Seq2[int, int] {
	return func(yield func(int, int) bool) { goBelow(f, h, 0, yield) }
}

func goBelow(f api.Forest, h, deep int, yield func(int, int) bool) bool {
	if !yield(h, deep) {
		return false
	}
	n := node(f, h)
	if n.Shadow != 0 && !goBelow(f, n.Shadow, deep+1, yield) {
		return false
	}
	for _, kid := range n.Kids {
		if !goBelow(f, kid, deep+1, yield) {
			return false
		}
	}
	return true
}
