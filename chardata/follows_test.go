package chardata_test

import (
	"math"
	"slices"
	"testing"

	"canopy/api"
	"canopy/chardata"
	"canopy/forest"
	"canopy/sample"
)

// modelReplace says what the chapter's words say of replacing.
func modelReplace(f api.Forest, h, offset, count int, data api.Units) (api.Forest, []api.Change, api.Errno) {
	old := f.Nodes[h-1].Data
	if offset > len(old) {
		return api.Forest{}, nil, api.ErrIndexSize
	}
	if count > len(old)-offset {
		count = len(old) - offset
	}
	g := sample.Copy(f)
	g.Nodes[h-1].Data = slices.Concat(old[:offset], data, old[offset+count:])
	return g, []api.Change{{Kind: api.ChangeData, Node: h, Offset: offset, Count: count, Data: data}}, api.OK
}

// modelTexts are the units of the texts below a node, in tree order.
func modelTexts(f api.Forest, h int) api.Units {
	var all api.Units
	for _, kid := range f.Nodes[h-1].Kids {
		if isText(f.Nodes[kid-1]) {
			all = append(all, f.Nodes[kid-1].Data...)
		}
		all = append(all, modelTexts(f, kid)...)
	}
	return all
}

// modelWhole goes over all siblings, and forgets what it has where the run ends without the text.
func modelWhole(f api.Forest, h int) api.Units {
	n := f.Nodes[h-1]
	if n.Parent == 0 {
		return n.Data
	}
	var run api.Units
	met := false
	for _, kid := range f.Nodes[n.Parent-1].Kids {
		if isText(f.Nodes[kid-1]) {
			run = append(run, f.Nodes[kid-1].Data...)
			met = met || kid == h
		} else if met {
			return run
		} else {
			run = nil
		}
	}
	return run
}

func hasData(n api.Node) bool {
	return isText(n) || n.Kind == api.KindComment || n.Kind == api.KindInstruction
}

// 5.1, 5.2, 5.5, 5.7, 5.8: all nodes of forests that are grown, as the model says.
func TestAsModel(t *testing.T) {
	runs := 0
	for seed := range 120 {
		d := sample.NewDice(seed + 500)
		f := sample.Grow(d, 4+d.Below(28))
		for i, n := range f.Nodes {
			wantContent(t, f, i+1)
			if isText(n) {
				u, why := chardata.Whole(f, i+1)
				if why != api.OK || !slices.Equal(u, modelWhole(f, i+1)) {
					t.Errorf("5.1: Whole(%d) = %v, %d", i+1, u, why)
				}
				if len(u) > len(n.Data) {
					runs++
				}
			}
			if hasData(n) {
				wantReplacing(t, f, i+1, sample.Data(d))
				wantBack(t, f, i+1, uint32(d.Below(len(n.Data)+1)), sample.Data(d))
			}
		}
		if t.Failed() {
			t.Fatalf("seed %d: %+v", seed, f)
		}
	}
	if runs < 20 {
		t.Error("too few texts beside one another:", runs)
	}
}

func wantContent(t *testing.T, f api.Forest, h int) {
	t.Helper()
	n := f.Nodes[h-1]
	want := slices.Concat(n.Data, modelTexts(f, h))
	has := n.Kind != api.KindDocument && n.Kind != api.KindDoctype
	if !has {
		want = nil
	}
	if u, is, why := chardata.Content(f, h); why != api.OK || is != has || !slices.Equal(u, want) {
		t.Errorf("5.1: Content(%d) = %v, %t, %d", h, u, is, why)
	}
}

func wantReplacing(t *testing.T, f api.Forest, h int, data api.Units) {
	t.Helper()
	length := len(f.Nodes[h-1].Data)
	for offset := range length + 2 {
		for _, count := range []int{0, 1, 2, length, math.MaxUint32} {
			at, so := uint32(offset), uint32(count)
			for name, c := range map[string]struct {
				call  func() (api.Forest, []api.Change, api.Errno)
				model func() (api.Forest, []api.Change, api.Errno)
			}{
				"Replace": {
					func() (api.Forest, []api.Change, api.Errno) { return chardata.Replace(f, h, at, so, data) },
					func() (api.Forest, []api.Change, api.Errno) { return modelReplace(f, h, offset, count, data) },
				},
				"Insert": {
					func() (api.Forest, []api.Change, api.Errno) { return chardata.Insert(f, h, at, data) },
					func() (api.Forest, []api.Change, api.Errno) { return modelReplace(f, h, offset, 0, data) },
				},
				"Delete": {
					func() (api.Forest, []api.Change, api.Errno) { return chardata.Delete(f, h, at, so) },
					func() (api.Forest, []api.Change, api.Errno) { return modelReplace(f, h, offset, count, nil) },
				},
				"Append": {
					func() (api.Forest, []api.Change, api.Errno) { return chardata.Append(f, h, data) },
					func() (api.Forest, []api.Change, api.Errno) { return modelReplace(f, h, length, 0, data) },
				},
				"Set": {
					func() (api.Forest, []api.Change, api.Errno) { return chardata.Set(f, h, data) },
					func() (api.Forest, []api.Change, api.Errno) { return modelReplace(f, h, 0, length, data) },
				},
			} {
				g, l, why := c.call()
				want, wantChanges, wantWhy := c.model()
				if why != wantWhy || !forest.Same(g, want) || !sample.SameChanges(l, wantChanges) {
					t.Errorf("5.2: %s(%d, %d, %d, %v): %+v, %d", name, h, offset, count, data, l, why)
				}
				if why != api.OK {
					continue
				}
				if all, _, why := forest.All(f, l); why != api.OK || !forest.Same(all, g) {
					t.Errorf("5.5: %s(%d, %d, %d): error %d", name, h, offset, count, why)
				}
				wantOthersAlone(t, f, g, h)
			}
		}
	}
}

// wantBack sees that what was put can be read, and taken away again (5.7).
func wantBack(t *testing.T, f api.Forest, h int, offset uint32, data api.Units) {
	t.Helper()
	g, _, why := chardata.Insert(f, h, offset, data)
	if why != api.OK {
		t.Fatal(why)
	}
	if u, why := chardata.Substring(g, h, offset, uint32(len(data))); why != api.OK || !slices.Equal(u, data) {
		t.Errorf("5.7: Substring(%d) of what was put: %v, %d", h, u, why)
	}
	if back, _, why := chardata.Delete(g, h, offset, uint32(len(data))); why != api.OK || !forest.Same(back, f) {
		t.Errorf("5.7: Delete(%d) of what was put: %d", h, why)
	}
}

// changing are the calls that answer changes, of a text with a parent, and with nodes of all kinds around.
func changing(data api.Units) map[string]func(api.Forest) (api.Forest, []api.Change) {
	but := func(g api.Forest, l []api.Change, _ api.Errno) (api.Forest, []api.Change) { return g, l }
	return map[string]func(api.Forest) (api.Forest, []api.Change){
		"Replace": func(f api.Forest) (api.Forest, []api.Change) { return but(chardata.Replace(f, 3, 1, 1, data)) },
		"Insert":  func(f api.Forest) (api.Forest, []api.Change) { return but(chardata.Insert(f, 3, 2, data)) },
		"Delete":  func(f api.Forest) (api.Forest, []api.Change) { return but(chardata.Delete(f, 3, 0, 1)) },
		"Append":  func(f api.Forest) (api.Forest, []api.Change) { return but(chardata.Append(f, 3, data)) },
		"Set":     func(f api.Forest) (api.Forest, []api.Change) { return but(chardata.Set(f, 3, data)) },
		"Split": func(f api.Forest) (api.Forest, []api.Change) {
			g, _, l, _ := chardata.Split(f, 3, 1)
			return g, l
		},
		"Split at the end": func(f api.Forest) (api.Forest, []api.Change) {
			g, _, l, _ := chardata.Split(f, 13, 4)
			return g, l
		},
	}
}

// 5.4: forests and changes that are answered are new memory, and the forest that is handed in is left alone.
func TestNewMemory(t *testing.T) {
	for _, data := range []api.Units{nil, of("x"), of("xyz")} {
		for name, call := range changing(data) {
			if g, l := call(page()); len(g.Nodes) < 18 || len(l) == 0 {
				t.Fatal(name, "is refused")
			}
			if s := sample.Sharing(page(), call); s != "" {
				t.Errorf("%s: %s", name, s)
			}
		}
	}
}

// 5.4: data that are handed in are neither changed nor kept.
func TestDataNotKept(t *testing.T) {
	for _, length := range []int{0, 1, 3} {
		for name := range changing(nil) {
			data := append(make(api.Units, 0, 9), of("xyz")[:length]...)
			g, l := changing(data)[name](page())
			forestWas, changesWere := sample.Copy(g), sample.CopyChanges(l)
			room := slices.Clone(data[:cap(data)])
			sample.Spoil(g)
			sample.SpoilChanges(l)
			if !slices.Equal(data[:cap(data)], room) {
				t.Errorf("%s: the data change with the answer", name)
			}
			g, l = changing(data)[name](page())
			sample.Fill(data, 999)
			if !forest.Same(g, forestWas) || !sample.SameChanges(l, changesWere) {
				t.Errorf("%s: the answer changes with the data", name)
			}
		}
	}
}

// 5.4: units that are answered are new memory.
func TestNewUnits(t *testing.T) {
	for name, call := range map[string]func(f api.Forest) api.Units{
		"Substring":            func(f api.Forest) api.Units { u, _ := chardata.Substring(f, 13, 0, 4); return u },
		"Substring, a part":    func(f api.Forest) api.Units { u, _ := chardata.Substring(f, 13, 1, 2); return u },
		"Substring, nothing":   func(f api.Forest) api.Units { u, _ := chardata.Substring(f, 13, 4, 2); return u },
		"Whole, alone":         func(f api.Forest) api.Units { u, _ := chardata.Whole(f, 13); return u },
		"Whole, beside others": func(f api.Forest) api.Units { u, _ := chardata.Whole(f, 3); return u },
		"Content of a text":    func(f api.Forest) api.Units { u, _, _ := chardata.Content(f, 13); return u },
		"Content of a comment": func(f api.Forest) api.Units { u, _, _ := chardata.Content(f, 6); return u },
		"Content of one text":  func(f api.Forest) api.Units { u, _, _ := chardata.Content(f, 8); return u },
		"Content":              func(f api.Forest) api.Units { u, _, _ := chardata.Content(f, 2); return u },
	} {
		f := sample.Roomy(page())
		u := call(f)
		was := slices.Clone(u)
		sample.Fill(call(f), 999)
		if sample.Spoilt(f) || !forest.Same(f, page()) || !slices.Equal(u, was) {
			t.Errorf("%s: the forest changes with the answer", name)
		}
		sample.Spoil(f)
		if !slices.Equal(u, was) {
			t.Errorf("%s: the answer changes with the forest", name)
		}
	}
}
