package world

import (
	"canopy/api"
	"canopy/attrs"
	"canopy/custom"
	"canopy/find"
	"canopy/forest"
	"canopy/order"
	"canopy/shadow"
)

// question is how a question is answered, of a node that is there.
type question struct {
	answers func(*World, int) (int, api.Errno)
}

func (w *World) ask(c api.Command) (answer, api.Errno) {
	switch {
	case !w.isNode(c.A):
		return answer{}, api.ErrRange
	case c.N < 0 || c.N >= int(api.AskCount):
		return answer{}, api.ErrType
	}
	return number([api.AskCount]question{
		api.AskParent: {(*World).askParent},
		api.AskFirst:  {(*World).askFirst},
		api.AskKids:   {(*World).askKids},
		api.AskLength: {(*World).askLength},
		api.AskIndex:  {(*World).askIndex},
		api.AskRoot:   {(*World).askRoot},
		api.AskTop:    {(*World).askTop},
		api.AskDoc:    {(*World).askDoc},
		api.AskShadow: {(*World).askShadow},
		api.AskSlot:   {(*World).askSlot},
		api.AskState:  {(*World).askState},
	}[c.N].answers(w, c.A))
}

func (w *World) askParent(h int) (int, api.Errno) { return w.node(h).Parent, api.OK }

func (w *World) askFirst(h int) (int, api.Errno) {
	if kids := w.node(h).Kids; len(kids) > 0 {
		return kids[0], api.OK
	}
	return 0, api.OK
}

func (w *World) askKids(h int) (int, api.Errno) { return len(w.node(h).Kids), api.OK }

func (w *World) askLength(h int) (int, api.Errno) { return order.Length(w.has.Forest, h) }

func (w *World) askIndex(h int) (int, api.Errno) { return order.Index(w.has.Forest, h) }

func (w *World) askRoot(h int) (int, api.Errno) { return order.Root(w.has.Forest, h) }

func (w *World) askTop(h int) (int, api.Errno) { return order.Top(w.has.Forest, h) }

func (w *World) askDoc(h int) (int, api.Errno) { return w.node(h).Doc, api.OK }

// askShadow tells of a shadow root only if those outside are told of it.
func (w *World) askShadow(h int) (int, api.Errno) {
	root := w.node(h).Shadow
	if root == 0 || w.node(root).Mode != api.ShadowOpen {
		return 0, api.OK
	}
	return root, api.OK
}

func (w *World) askSlot(h int) (int, api.Errno) {
	return shadow.Slot(w.has.Forest, w.has.Hand, h, true)
}

func (w *World) askState(h int) (int, api.Errno) {
	e, why := custom.Of(w.has.Registry, h)
	return int(e.State), why
}

func (w *World) get(c api.Command) (answer, api.Errno) {
	value, is, why := attrs.Get(w.has.Forest, c.A, c.S)
	return answer{value: counted(is), text: value}, why
}

func (w *World) find(c api.Command) (answer, api.Errno) {
	all, why := find.Tag(w.has.Forest, c.A, c.S)
	return number(len(all), why)
}

func (w *World) dump(c api.Command) (answer, api.Errno) {
	text, why := forest.Print(w.has.Forest, c.A)
	return answer{text: text}, why
}
