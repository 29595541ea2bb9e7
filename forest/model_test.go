package forest_test

import (
	"reflect"
	"slices"
	"strings"

	"canopy/api"
	"canopy/sample"
)

// The model says what the chapter's words say, as plainly and slowly as can be, and shares nothing with the program.

// nodeFields are those that a node of each kind may have, beside Kind and Doc.
var nodeFields = map[api.NodeKind]string{
	api.KindElement:     "Space Prefix Local Attrs Parent Kids Shadow",
	api.KindText:        "Data Parent",
	api.KindCData:       "Data Parent",
	api.KindInstruction: "Local Data Parent",
	api.KindComment:     "Data Parent",
	api.KindDocument:    "Kids HTML",
	api.KindDoctype:     "Local Public System Parent",
	api.KindFragment:    "Kids",
	api.KindShadow:      "Kids Host Mode Manual",
}

// changeFields are those that a change of each kind may have, beside Kind.
var changeFields = map[api.ChangeKind]string{
	api.ChangeMake:   "Node Made",
	api.ChangeInsert: "Node Parent Index",
	api.ChangeRemove: "Node Parent Index",
	api.ChangeAdopt:  "Node Doc",
	api.ChangeData:   "Node Offset Count Data",
	api.ChangeAttr:   "Node Name Old Value Had Has",
	api.ChangeShadow: "Node Other Made",
	api.ChangeSplit:  "Node Other Offset",
	api.ChangeMerge:  "Node Other Offset",
	api.ChangeTree:   "Parent Added Removed Prev Next",
}

// set are the names of the fields of a struct that are not zero; those of a Name stand for themselves.
func set(x any) []string {
	var names []string
	v := reflect.ValueOf(x)
	for i := range v.NumField() {
		field := v.Field(i)
		name := v.Type().Field(i).Name
		switch {
		case field.Kind() == reflect.Slice && field.Len() == 0:
		case v.Type() == reflect.TypeFor[api.Node]() && name == "Name":
			names = append(names, set(field.Interface())...)
		case name == "Made" && len(set(field.Interface())) == 0:
		case !field.IsZero():
			names = append(names, name)
		}
	}
	return names
}

func onlySet(x any, may string) bool {
	for _, name := range set(x) {
		if !slices.Contains(strings.Fields(may), name) {
			return false
		}
	}
	return true
}

func modelName(n api.Name) bool {
	return n.Local != "" && !(n.Prefix != "" && n.Space == "") &&
		len(n.Local) <= 1024 && len(n.Prefix) <= 1024 && len(n.Space) <= 1024
}

func modelMade(n api.Node) bool {
	may, is := nodeFields[n.Kind]
	if !is || !onlySet(n, may+" Kind Doc") {
		return false
	}
	if strings.Contains(may, "Local") && !modelName(n.Name) {
		return false
	}
	if len(n.Public) > 1024 || len(n.System) > 1024 || len(n.Data) > 16384 || len(n.Attrs) > 64 {
		return false
	}
	for i, a := range n.Attrs {
		if !modelName(a.Name) || len(a.Value) > 4096 {
			return false
		}
		for j, b := range n.Attrs {
			if i != j && a.Name.Space == b.Name.Space && a.Name.Local == b.Name.Local {
				return false
			}
		}
	}
	return n.Kind != api.KindShadow || n.Mode == 1 || n.Mode == 2
}

// modelFirst is the first node that is not right, -1 if all are, 0 if there are too many.
func modelFirst(f api.Forest) int {
	if len(f.Nodes) > 4096 {
		return 0
	}
	for h := 1; h <= len(f.Nodes); h++ {
		if !modelRight(f, h) {
			return h
		}
	}
	return -1
}

func modelRight(f api.Forest, h int) bool {
	n := f.Nodes[h-1]
	return modelMade(n) && modelLinks(f, h) && modelEnds(f, h) && modelDoc(f, h) && modelShadow(f, h) && modelKids(f, n)
}

// get is the node of a handle: one without a kind, if there is none.
func get(f api.Forest, h int) api.Node {
	if h < 1 || h > len(f.Nodes) {
		return api.Node{}
	}
	return f.Nodes[h-1]
}

func isNode(f api.Forest, h int) bool { return 1 <= h && h <= len(f.Nodes) }

func modelLinks(f api.Forest, h int) bool {
	n := get(f, h)
	for i, kid := range n.Kids {
		if !isNode(f, kid) || get(f, kid).Parent != h || slices.Contains(n.Kids[:i], kid) {
			return false
		}
	}
	return n.Parent == 0 || isNode(f, n.Parent) && slices.Contains(get(f, n.Parent).Kids, h)
}

func modelEnds(f api.Forest, h int) bool {
	for range len(f.Nodes) + 1 {
		if !isNode(f, h) {
			return true
		}
		if n := get(f, h); n.Kind == api.KindShadow {
			h = n.Host
		} else {
			h = n.Parent
		}
	}
	return false
}

func modelDoc(f api.Forest, h int) bool {
	n := get(f, h)
	switch {
	case get(f, n.Doc).Kind != api.KindDocument:
		return false
	case n.Kind == api.KindDocument:
		return n.Doc == h
	case n.Kind == api.KindShadow:
		return n.Doc == get(f, n.Host).Doc
	}
	return n.Parent == 0 || n.Doc == get(f, n.Parent).Doc
}

func modelShadow(f api.Forest, h int) bool {
	n := get(f, h)
	if n.Kind == api.KindShadow {
		return get(f, n.Host).Kind == api.KindElement && get(f, n.Host).Shadow == h
	}
	return n.Shadow == 0 || get(f, n.Shadow).Kind == api.KindShadow && get(f, n.Shadow).Host == h
}

// modelKids writes each kid as a letter: a document's are then a word of a small language.
func modelKids(f api.Forest, n api.Node) bool {
	letters := map[api.NodeKind]string{
		api.KindElement: "e", api.KindText: "t", api.KindCData: "t", api.KindDoctype: "d",
		api.KindComment: "", api.KindInstruction: "",
	}
	word := ""
	for _, kid := range n.Kids {
		letter, is := letters[get(f, kid).Kind]
		if !is {
			return false
		}
		word += letter
	}
	if n.Kind == api.KindDocument {
		return slices.Contains([]string{"", "e", "d", "de"}, word)
	}
	return !strings.Contains(word, "d")
}

// modelApply is asked of right forests.
func modelApply(f api.Forest, c api.Change) (api.Forest, api.Errno) {
	if (c.Kind == api.ChangeMake || c.Kind == api.ChangeShadow) && len(f.Nodes) >= 4096 {
		return api.Forest{}, api.ErrMany
	}
	may, is := changeFields[c.Kind]
	if !is || !onlySet(c, may+" Kind") {
		return api.Forest{}, api.ErrRange
	}
	g := sample.Copy(f)
	if !modelDo(&g, sample.CopyChange(c)) || modelFirst(g) != -1 {
		return api.Forest{}, api.ErrRange
	}
	return g, api.OK
}

func modelDo(g *api.Forest, c api.Change) bool {
	next := len(g.Nodes) + 1
	switch c.Kind {
	case api.ChangeMake:
		g.Nodes = append(g.Nodes, c.Made)
		return c.Node == next && c.Made.Kind != api.KindShadow
	case api.ChangeShadow:
		if !isNode(*g, c.Node) || g.Nodes[c.Node-1].Kind != api.KindElement || g.Nodes[c.Node-1].Shadow != 0 {
			return false
		}
		g.Nodes[c.Node-1].Shadow = next
		g.Nodes = append(g.Nodes, api.Node{
			Kind: api.KindShadow, Doc: g.Nodes[c.Node-1].Doc, Host: c.Node, Mode: c.Made.Mode, Manual: c.Made.Manual,
		})
		return c.Other == next && c.Made.Kind == api.KindShadow && onlySet(c.Made, "Kind Mode Manual")
	case api.ChangeInsert, api.ChangeRemove:
		return isNode(*g, c.Node) && isNode(*g, c.Parent) && modelMove(g, c)
	case api.ChangeAdopt:
		return isNode(*g, c.Node) && isNode(*g, c.Doc) && modelAdopt(g, c)
	case api.ChangeData:
		return isNode(*g, c.Node) && modelData(&g.Nodes[c.Node-1], c)
	case api.ChangeAttr:
		return isNode(*g, c.Node) && modelAttr(&g.Nodes[c.Node-1], c)
	}
	for _, h := range append(append([]int{c.Node, c.Other, c.Parent, c.Prev, c.Next}, c.Added...), c.Removed...) {
		if h != 0 && !isNode(*g, h) {
			return false
		}
	}
	return true
}

func modelMove(g *api.Forest, c api.Change) bool {
	n, p := &g.Nodes[c.Node-1], &g.Nodes[c.Parent-1]
	if c.Index < 0 || c.Index > len(p.Kids) {
		return false
	}
	head, tail := slices.Clone(p.Kids[:c.Index]), slices.Clone(p.Kids[c.Index:])
	if c.Kind == api.ChangeInsert {
		was := n.Parent
		n.Parent, p.Kids = c.Parent, append(append(head, c.Node), tail...)
		return was == 0
	}
	if len(tail) == 0 || tail[0] != c.Node {
		return false
	}
	n.Parent, p.Kids = 0, append(head, tail[1:]...)
	return true
}

func modelAdopt(g *api.Forest, c api.Change) bool {
	n := g.Nodes[c.Node-1]
	if n.Kind == api.KindDocument || n.Kind == api.KindShadow || n.Parent != 0 {
		return false
	}
	for h := range g.Nodes {
		top := h + 1
		for top != c.Node && (get(*g, top).Parent != 0 || get(*g, top).Host != 0) {
			top = get(*g, top).Parent + get(*g, top).Host
		}
		if top == c.Node {
			g.Nodes[h].Doc = c.Doc
		}
	}
	return g.Nodes[c.Doc-1].Kind == api.KindDocument
}

func modelData(n *api.Node, c api.Change) bool {
	if !strings.Contains(nodeFields[n.Kind], "Data") {
		return false
	}
	for i := range n.Data { // a count that reaches past the end is one that no place of the data has
		if i == c.Offset && c.Count >= 0 && c.Count <= len(n.Data)-i {
			n.Data = append(append(slices.Clone(n.Data[:i]), c.Data...), n.Data[i+c.Count:]...)
			return true
		}
	}
	if c.Offset == len(n.Data) && c.Count == 0 {
		n.Data = append(n.Data, c.Data...)
		return true
	}
	return false
}

func modelAttr(n *api.Node, c api.Change) bool {
	had, old, kept := false, "", []api.Attr(nil)
	for _, a := range n.Attrs {
		if a.Name.Space != c.Name.Space || a.Name.Local != c.Name.Local {
			kept = append(kept, a)
			continue
		}
		had, old = true, a.Value
		if c.Has {
			kept = append(kept, api.Attr{Name: a.Name, Value: c.Value})
		}
	}
	if !had && c.Has {
		kept = append(kept, api.Attr{Name: c.Name, Value: c.Value})
	}
	n.Attrs = kept
	return n.Kind == api.KindElement && had == c.Had && old == c.Old && (c.Had || c.Has) && (c.Has || c.Value == "")
}
