package shadow_test

import (
	"slices"
	"testing"

	"canopy/api"
)

// goes is a node taken from its parent, comes one put into a parent.
func goes(f api.Forest, h int) api.Change {
	parent := f.Nodes[h-1].Parent
	return api.Change{Kind: api.ChangeRemove, Node: h, Parent: parent, Index: slices.Index(f.Nodes[parent-1].Kids, h)}
}

func comes(h, parent, at int) api.Change {
	return api.Change{Kind: api.ChangeInsert, Node: h, Parent: parent, Index: at}
}

// named is an attribute that has another value, unnamed one that is there no more.
func named(f api.Forest, h int, local, value string) api.Change {
	c := api.Change{Kind: api.ChangeAttr, Node: h, Name: api.Name{Local: local}, Has: true, Value: value}
	for _, a := range f.Nodes[h-1].Attrs {
		if a.Name == c.Name {
			c.Had, c.Old = true, a.Value
		}
	}
	return c
}

func unnamed(f api.Forest, h int, local string) api.Change {
	c := named(f, h, local, "")
	c.Has = false
	return c
}

// P18.5: slottables that come, go, or name another slot.
func TestSignalsOfSlottables(t *testing.T) {
	f := theatre()
	for what, x := range map[string]struct {
		c     api.Change
		slots []int
	}{
		"one goes":                {goes(f, toA), some(slotA)},
		"a text goes":             {goes(f, text), some(rest)},
		"CDATA go":                {goes(f, cdata), some(rest)},
		"a host goes":             {goes(f, shut), some(rest)},
		"a comment goes":          {goes(f, comment), nil},
		"one without a slot":      {goes(f, toNone), nil},
		"one comes":               {comes(loose, host, 0), some(rest)},
		"one comes, closed":       {comes(loose, shut, 1), some(shutSlot)},
		"one comes, by hand":      {comes(loose, manual, 0), nil},
		"another slot":            {named(f, toA, "slot", "b"), some(slotA, slotB)},
		"another slot, back":      {named(f, toB, "slot", "a"), some(slotA, slotB)},
		"no slot":                 {unnamed(f, toA, "slot"), some(slotA, rest)},
		"an empty slot":           {named(f, toB, "slot", ""), some(slotB, rest)},
		"a slot that is not":      {named(f, toA, "slot", "z"), some(slotA)},
		"a slot that is, at last": {named(f, toNone, "slot", "a"), some(slotA)},
		"the same slot":           {named(f, toA, "slot", "a"), nil},
		"another name":            {named(f, toB, "name", "b"), nil},
		"one that was none":       {named(f, shut, "slot", "b"), some(slotB, rest)},
		"by hand, another slot":   {named(f, handKid, "slot", "b"), nil},
		"nowhere, another slot":   {named(f, loose, "slot", "b"), nil},
		"the host's":              {named(f, host, "slot", "b"), nil},
		"with a namespace":        {api.Change{Kind: api.ChangeAttr, Node: toA, Name: api.Name{Space: "urn:x", Local: "slot"}, Has: true, Value: "b"}, nil},
	} {
		wantSignals(t, what, f, nil, []api.Change{x.c}, x.slots...)
	}
}

// P18.5: slots that come, go, or have another name, with all within them.
func TestSignalsOfSlots(t *testing.T) {
	f := theatre()
	for what, x := range map[string]struct {
		c     api.Change
		slots []int
	}{
		"one goes":                  {goes(f, slotA), some(slotA, secondA)},
		"the second one goes":       {goes(f, secondA), nil},
		"some within one go":        {goes(f, slotB), some(slotB, rest)},
		"some within a box go":      {goes(f, box), some(slotB, rest)},
		"one that is not":           {goes(f, svgSlot), nil},
		"the only one goes":         {goes(f, shutSlot), some(shutSlot)},
		"one comes ahead":           {comes(looseSlot, root, 0), some(rest, looseSlot)},
		"one comes within one":      {comes(looseSlot, slotB, 0), some(rest, looseSlot)},
		"one comes behind":          {comes(looseSlot, root, 3), nil},
		"one comes, closed":         {comes(looseSlot, shutRoot, 0), some(shutSlot, looseSlot)},
		"one comes into a host":     {comes(looseSlot, shut, 0), some(shutSlot)},
		"another name":              {named(f, slotA, "name", "z"), some(slotA, secondA)},
		"a name that is wanted":     {named(f, slotA, "name", "c"), some(slotA, secondA)},
		"another one's name":        {named(f, slotA, "name", "b"), some(slotA, secondA, slotB)},
		"no name":                   {unnamed(f, slotA, "name"), some(slotA, secondA, rest)},
		"a name at last":            {named(f, rest, "name", "c"), some(rest, secondR)},
		"the second one's":          {named(f, secondA, "name", "z"), nil},
		"the second one's, wanted":  {named(f, secondA, "name", "c"), some(secondA)},
		"another slot":              {named(f, slotA, "slot", "b"), nil},
		"by hand":                   {named(f, handA, "name", "z"), nil},
		"nowhere":                   {named(f, looseSlot, "name", "z"), nil},
		"with a namespace":          {api.Change{Kind: api.ChangeAttr, Node: slotA, Name: api.Name{Space: "urn:x", Local: "name"}, Has: true, Value: "b"}, nil},
		"of one that is not a slot": {named(f, svgSlot, "name", "a"), nil},
	} {
		wantSignals(t, what, f, nil, []api.Change{x.c}, x.slots...)
	}
}

// P18.5: in a Manual shadow root.
func TestSignalsByHand(t *testing.T) {
	f := theatre()
	hand := []api.Assign{given(handB, handKid, loose), given(handA, text), given(slotA, handText), given(looseSlot, toA)}
	for what, x := range map[string]struct {
		changes []api.Change
		slots   []int
	}{
		"one goes":                      {[]api.Change{goes(f, handKid)}, some(handB)},
		"one that was given elsewhere":  {[]api.Change{goes(f, handText)}, nil},
		"one comes":                     {[]api.Change{comes(loose, manual, 0)}, some(handB)},
		"one comes that was given none": {[]api.Change{comes(looseSlot, manual, 0)}, nil},
		"one comes from elsewhere":      {[]api.Change{goes(f, text), comes(text, manual, 0)}, some(rest, handA)},
		"the slot goes":                 {[]api.Change{goes(f, handB)}, some(handB)},
		"an empty slot goes":            {[]api.Change{goes(f, handA)}, nil},
		"the slot, where names count":   {[]api.Change{goes(f, handB), comes(handB, root, 0)}, some(handB, rest)},
		"a slot of names comes":         {[]api.Change{goes(f, slotA), comes(slotA, byHand, 0)}, some(slotA, secondA)},
	} {
		wantSignals(t, what, f, hand, x.changes, x.slots...)
	}
}

// P18.5: a slot whose own kids are seen, since nothing is assigned to it, is told of these, whatever they are, if its root is a shadow root.
func TestSignalsOfEmptySlots(t *testing.T) {
	f := theatre()
	for what, x := range map[string]struct {
		changes []api.Change
		slots   []int
	}{
		"one comes":                         {[]api.Change{comes(loose, secondA, 0)}, some(secondA)},
		"one comes, by hand":                {[]api.Change{comes(loose, handA, 0)}, some(handA)},
		"a comment comes":                   {[]api.Change{goes(f, comment), comes(comment, secondR, 0)}, some(secondR)},
		"one comes where some are assigned": {[]api.Change{comes(loose, slotA, 0)}, nil},
		"one goes where some are assigned":  {[]api.Change{goes(f, ownText)}, nil},
		"one comes where there is no root":  {[]api.Change{comes(loose, looseSlot, 0)}, nil},
		"one goes where there is no root":   {[]api.Change{goes(f, looseKid)}, nil},
		"one goes once it is empty":         {[]api.Change{goes(f, toA), comes(loose, slotA, 0), {Kind: api.ChangeRemove, Node: loose, Parent: slotA}}, some(slotA)},
		"deeper down":                       {[]api.Change{comes(loose, secondA, 0), goes(f, toA), comes(toA, loose, 0)}, some(secondA, slotA)},
		"a slot into an empty one":          {[]api.Change{comes(looseSlot, secondA, 0)}, some(rest, looseSlot, secondA)},
		"a kid of an SVG one":               {[]api.Change{comes(loose, svgSlot, 0)}, nil},
	} {
		wantSignals(t, what, f, nil, x.changes, x.slots...)
	}
}

// P18.5: change by change, each slot once, where it comes first; what is there and back is told all the same.
func TestSignalsInOrder(t *testing.T) {
	f := theatre()
	wantSignals(t, "there and back", f, nil, []api.Change{goes(f, toA), comes(toA, host, 0)}, slotA)
	wantSignals(t, "turned round", f, nil, []api.Change{goes(f, toB), goes(f, toA)}, slotB, slotA)
	wantSignals(t, "twice", f, nil, []api.Change{goes(f, toB), goes(f, toA), comes(toB, host, 0)}, slotB, slotA)
	wantSignals(t, "moved among its siblings", f, nil, []api.Change{goes(f, text), comes(text, host, 3)}, rest)
	wantSignals(t, "none", f, nil, nil)
	slot := api.Node{Kind: api.KindElement, Name: html("slot"), Attrs: []api.Attr{attr("name", "b")}, Doc: doc}
	wantSignals(t, "a new one", f, nil, []api.Change{{Kind: api.ChangeMake, Node: loose + 1, Made: slot}, comes(loose+1, root, 0)}, slotB, loose+1)
	wantSignals(t, "a new one, that is all", f, nil, []api.Change{{Kind: api.ChangeMake, Node: loose + 1, Made: slot}})
}

// P18.5: changes by which nothing is assigned otherwise.
func TestSignalsOfOthers(t *testing.T) {
	f := theatre()
	f.Nodes[text-1].Data = api.Units{'a'}
	wantSignals(t, "others", f, []api.Assign{given(handA, handKid)}, []api.Change{
		{Kind: api.ChangeData, Node: text, Count: 1, Data: api.Units{'b', 'c'}},
		{Kind: api.ChangeTree, Parent: host, Added: some(toA), Removed: some(toA)},
		{Kind: api.ChangeSplit, Node: text, Other: cdata}, {Kind: api.ChangeMerge, Node: text, Other: cdata},
		{Kind: api.ChangeShadow, Node: toA, Other: loose + 1, Made: api.Node{Kind: api.KindShadow, Mode: api.ShadowOpen}},
		{Kind: api.ChangeMake, Node: loose + 2, Made: api.Node{Kind: api.KindDocument, Doc: loose + 2}},
		{Kind: api.ChangeAdopt, Node: loose, Doc: loose + 2},
		named(f, toA, "class", "b"),
		comes(looseSlot, box, 2),
	})
}
