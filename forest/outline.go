package forest

import (
	"strconv"
	"strings"

	"canopy/api"
)

const maxOutline = 1 << 20

func outline(f api.Forest, root int) (string, api.Errno) {
	var text strings.Builder
	for h, deep := range below(f, root) {
		text.WriteString(strings.Repeat("  ", deep))
		text.WriteString(line(*node(f, h)))
		text.WriteByte('\n')
		if text.Len() > maxOutline {
			return "", api.ErrLong
		}
	}
	return text.String(), api.OK
}

func line(n api.Node) string {
	switch n.Kind {
	case api.KindElement:
		return tag(n)
	case api.KindDocument:
		return "#document"
	case api.KindFragment:
		return "#fragment"
	case api.KindShadow:
		return "#shadow"
	case api.KindDoctype:
		return "!" + n.Name.Local
	case api.KindInstruction:
		return "?" + n.Name.Local
	case api.KindText:
		return sized("#text", n)
	case api.KindCData:
		return sized("#cdata", n)
	}
	return sized("#comment", n)
}

func tag(n api.Node) string {
	words := []string{qualified(n.Name)}
	for _, a := range n.Attrs {
		words = append(words, qualified(a.Name))
	}
	return "<" + strings.Join(words, " ") + ">"
}

func qualified(n api.Name) string {
	if n.Prefix == "" {
		return n.Local
	}
	return n.Prefix + ":" + n.Local
}

func sized(word string, n api.Node) string { return word + " " + strconv.Itoa(len(n.Data)) }
