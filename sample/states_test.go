package sample_test

import (
	"testing"

	"canopy/api"
	"canopy/sample"
)

// wholeState has something in each list.
func wholeState() api.State {
	f := sample.Tree(`a(#"xy" b)`)
	f.Nodes[1].Attrs = []api.Attr{{Name: api.Name{Local: "id"}, Value: "v"}}
	return api.State{
		Forest: f, Hand: []api.Assign{{Slot: 2, Nodes: []int{3, 4}}}, Ranges: []api.Range{{Start: api.Bound{Node: 1}, End: api.Bound{Node: 2}}},
		Iterators: []api.Iterator{{Root: 1, Ref: 2, Filter: api.Filter{Rules: []api.Rule{{Local: "a"}}}}},
		Listeners: api.Listeners{List: []api.Listener{{Id: 1, Node: 2}}, Next: 2}, Signals: []api.Signal{{Dependents: []int{2}}, {Dependent: true, Sources: []int{1}}},
		Registry: api.Registry{Definitions: []api.Definition{{Name: "x-a", Observed: []string{"id"}}}, Elements: []api.Custom{{Node: 2}}},
		Watch:    api.Watch{Regs: []api.Registration{{Id: 1, Options: api.Options{Filter: []string{"id"}}}}, Next: 2, Queues: [][]api.Record{{{Added: []int{1}, Removed: []int{2}, OldData: api.Units{3}}}}},
		Programs: []int{1, 2}, Fuel: 7, Exhausted: true,
	}
}

// States are the same only if all their fields are; nil and empty lists are alike.
func TestSameState(t *testing.T) {
	if !sample.SameState(api.State{}, api.State{Hand: []api.Assign{}, Ranges: []api.Range{}, Programs: []int{}}) || !sample.SameState(wholeState(), wholeState()) {
		t.Error("not the same")
	}
	for what, turn := range map[string]func(s *api.State){
		"Forest":     func(s *api.State) { s.Forest.Nodes[1].Kids[0] = 9 },
		"Hand":       func(s *api.State) { s.Hand[0].Nodes[1] = 9 },
		"a slot":     func(s *api.State) { s.Hand[0].Slot++ },
		"Ranges":     func(s *api.State) { s.Ranges[0].End.Offset++ },
		"Iterators":  func(s *api.State) { s.Iterators[0].Before = true },
		"a rule":     func(s *api.State) { s.Iterators[0].Filter.Rules[0].Local = "" },
		"Show":       func(s *api.State) { s.Iterators[0].Filter.Show++ },
		"Listeners":  func(s *api.State) { s.Listeners.List[0].Once = true },
		"Next":       func(s *api.State) { s.Listeners.Next++ },
		"Signals":    func(s *api.State) { s.Signals[0].Reason++ },
		"Registry":   func(s *api.State) { s.Registry.Elements[0].Is = "x" },
		"Watch":      func(s *api.State) { s.Watch.Queues[0][0].Added[0]++ },
		"Programs":   func(s *api.State) { s.Programs[1]++ },
		"Fuel":       func(s *api.State) { s.Fuel++ },
		"Exhausted":  func(s *api.State) { s.Exhausted = false },
		"nothing":    func(s *api.State) { *s = api.State{} },
		"an element": func(s *api.State) { s.Registry.Elements = nil },
	} {
		s := wholeState()
		turn(&s)
		if sample.SameState(s, wholeState()) {
			t.Error("the same, but for", what)
		}
	}
}

// A copy is not written over with what it is one of; lists that are parts of others are found.
func TestCopiesOfStates(t *testing.T) {
	s := wholeState()
	c := sample.CopyState(s)
	sample.SpoilState(s)
	if !sample.SameState(c, wholeState()) || sample.SameState(s, c) || sample.Partly(c) {
		t.Error(s, c)
	}
	for what, share := range map[string]func(s *api.State){
		"an entry twice":   func(s *api.State) { s.Hand = append(s.Hand, s.Hand[0]) },
		"Kids and Nodes":   func(s *api.State) { s.Hand[0].Nodes = s.Forest.Nodes[1].Kids },
		"Programs":         func(s *api.State) { s.Signals[0].Dependents = s.Programs },
		"Sources":          func(s *api.State) { s.Signals[1].Sources = s.Signals[0].Dependents },
		"Data":             func(s *api.State) { s.Watch.Queues[0][0].OldData = s.Forest.Nodes[2].Data },
		"Added":            func(s *api.State) { s.Watch.Queues[0][0].Added = s.Watch.Queues[0][0].Removed },
		"the room behind":  func(s *api.State) { l := make([]int, 4); s.Programs, s.Hand[0].Nodes = l[:2], l[2:] },
		"a queue as well":  func(s *api.State) { s.Watch.Queues = append(s.Watch.Queues, s.Watch.Queues[0]) },
		"Observed, Filter": func(s *api.State) { s.Registry.Definitions[0].Observed = s.Watch.Regs[0].Options.Filter },
	} {
		s := wholeState()
		share(&s)
		if !sample.Partly(s) {
			t.Error("not found:", what)
		}
	}
}
