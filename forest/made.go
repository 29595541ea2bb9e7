package forest

import (
	"slices"

	"canopy/api"
)

// wellMade tells whether a node is one by itself, whatever it hangs on.
func wellMade(n api.Node) bool {
	return known(n.Kind) && bare(n) && rightName(n) && rightAttrs(n.Attrs) &&
		short(api.MaxName, n.Public, n.System) && len(n.Data) <= api.MaxData && rightMode(n)
}

func known(k api.NodeKind) bool { return mayHang(k) || mayBeTop(k) }

// mayHang tells of which kinds a node may have a Parent.
func mayHang(k api.NodeKind) bool { return mayBeWithin(k) || k == api.KindDoctype }

// mayBeWithin tells which kinds may be kids of all that has kids but documents.
func mayBeWithin(k api.NodeKind) bool { return k == api.KindElement || hasData(k) }

// mayBeTop tells of which kinds a node never has a Parent.
func mayBeTop(k api.NodeKind) bool {
	return k == api.KindDocument || k == api.KindFragment || k == api.KindShadow
}

func hasKids(k api.NodeKind) bool { return k == api.KindElement || mayBeTop(k) }

func hasData(k api.NodeKind) bool {
	switch k {
	case api.KindText, api.KindCData, api.KindInstruction, api.KindComment:
		return true
	}
	return false
}

func hasLocal(k api.NodeKind) bool {
	return k == api.KindElement || k == api.KindDoctype || k == api.KindInstruction
}

// bare tells whether the fields that a node's kind has not are zero.
func bare(n api.Node) bool {
	switch {
	case n.Kind != api.KindElement && !(allZero(n.Name.Space, n.Name.Prefix) && len(n.Attrs) == 0 && n.Shadow == 0),
		n.Kind != api.KindDoctype && !allZero(n.Public, n.System),
		n.Kind != api.KindShadow && (n.Host != 0 || n.Mode != api.ShadowNone || n.Manual),
		n.Kind != api.KindDocument && n.HTML,
		!hasLocal(n.Kind) && n.Name.Local != "",
		!hasData(n.Kind) && len(n.Data) > 0,
		!hasKids(n.Kind) && len(n.Kids) > 0,
		!mayHang(n.Kind) && n.Parent != 0:
		return false
	}
	return true
}

// allZero tells whether each of some is its kind's zero.
func allZero[T comparable](some ...T) bool {
	var zero T
	return !slices.ContainsFunc(some, func(one T) bool { return one != zero })
}

func rightName(n api.Node) bool { return !hasLocal(n.Kind) || goodName(n.Name) }

func goodName(n api.Name) bool {
	return n.Local != "" && (n.Prefix == "" || n.Space != "") && short(api.MaxName, n.Space, n.Prefix, n.Local)
}

func rightMode(n api.Node) bool {
	return n.Kind != api.KindShadow || n.Mode == api.ShadowOpen || n.Mode == api.ShadowClosed
}

// rightAttrs looks only ahead of each attribute for another one of its name, so that each pair is seen once.
func rightAttrs(l []api.Attr) bool {
	if len(l) > api.MaxAttrs {
		return false
	}
	for i, a := range l {
		if !goodName(a.Name) || !short(api.MaxValue, a.Value) || attrAt(l[:i], a.Name) >= 0 {
			return false
		}
	}
	return true
}

// attrAt is where the attribute of a name's Space and Local stands, -1 if there is none: a prefix is no part of what it is known by.
func attrAt(l []api.Attr, n api.Name) int {
	return slices.IndexFunc(l, func(a api.Attr) bool { return a.Name.Space == n.Space && a.Name.Local == n.Local })
}

// short tells whether each of some texts has at most so many bytes.
func short(most int, some ...string) bool {
	return !slices.ContainsFunc(some, func(s string) bool { return len(s) > most })
}

// sameNode goes by what lists hold, so that nil and empty ones are alike.
func sameNode(n, m api.Node) bool {
	return n.Kind == m.Kind && n.Name == m.Name && n.Public == m.Public && n.System == m.System &&
		n.Parent == m.Parent && n.Doc == m.Doc && n.Host == m.Host && n.Shadow == m.Shadow &&
		n.Mode == m.Mode && n.Manual == m.Manual && n.HTML == m.HTML &&
		slices.Equal(n.Data, m.Data) && slices.Equal(n.Attrs, m.Attrs) && slices.Equal(n.Kids, m.Kids)
}

// copyOf has lists of its own in every node.
func copyOf(f api.Forest) api.Forest {
	nodes := slices.Clone(f.Nodes)
	for i, n := range nodes {
		nodes[i] = copyOfNode(n)
	}
	return api.Forest{Nodes: nodes}
}

func copyOfNode(n api.Node) api.Node {
	n.Data = slices.Clone(n.Data)
	n.Attrs = slices.Clone(n.Attrs)
	n.Kids = slices.Clone(n.Kids)
	return n
}
