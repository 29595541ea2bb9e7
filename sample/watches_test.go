package sample_test

import (
	"testing"

	"canopy/api"
	"canopy/observe"
	"canopy/sample"
)

func watchOf(seed int) (api.Forest, api.Watch) {
	d := sample.NewDice(seed)
	f := sample.Thick(d, 1+d.Below(12))
	return f, sample.Watch(d, f, seed%5, seed%30)
}

// What watches are grown is right in their forest, the same each time; there are many of each kind.
func TestWatches(t *testing.T) {
	count := map[string]int{}
	for seed := range 300 {
		f, w := watchOf(seed)
		if _, again := watchOf(seed); !sample.SameWatch(w, again) {
			t.Errorf("seed %d: %v, then %v", seed, w, again)
		}
		if why := observe.Check(f, w); why != api.OK || len(w.Queues) != seed%5 || len(w.Regs) > seed%30 {
			t.Errorf("seed %d: %v, error %d", seed, w, why)
		}
		count["gaps"] += w.Next - 1 - len(w.Regs)
		for _, r := range w.Regs {
			for what, is := range map[string]bool{
				"Source": r.Source != 0, "Subtree": r.Options.Subtree, "Kids": r.Options.Kids, "Filters": r.Options.Filters,
				"OldAttr": r.Options.OldAttr == api.SaidYes, "OldData": r.Options.OldData == api.SaidYes,
			} {
				if is {
					count[what]++
				}
			}
		}
		for _, queue := range w.Queues {
			count["records"] += len(queue)
		}
	}
	for _, what := range []string{"gaps", "Source", "Subtree", "Kids", "Filters", "OldAttr", "OldData", "records"} {
		if count[what] < 200 {
			t.Error("too few of a kind:", what, count[what])
		}
	}
}

// all is a watch with something in each field.
func all() api.Watch {
	o := api.Options{Kids: true, Attrs: api.SaidYes, Filters: true, Filter: []string{"a"}}
	r := api.Record{Kind: api.RecordTree, Target: 1, OldData: api.Units{1}, Added: []int{1}, Removed: []int{2}}
	return api.Watch{Regs: []api.Registration{{Id: 1, Observer: 1, Node: 1, Options: o}}, Next: 2, Queues: [][]api.Record{{r}}}
}

// Copies are the same, in other memory, with room behind lists or not.
func TestCopiesOfWatches(t *testing.T) {
	for _, copied := range []func(api.Watch) api.Watch{sample.CopyWatch, sample.RoomyWatch} {
		w := all()
		v := copied(w)
		sample.SpoilWatch(w)
		if !sample.SameWatch(v, all()) || sample.SpoiltWatch(v) || !sample.SpoiltWatch(w) || sample.SameWatch(v, w) {
			t.Error(w, v)
		}
	}
}

// What is written over is seen, in each list and behind it.
func TestSpoiltWatches(t *testing.T) {
	for what, write := range map[string]func(w api.Watch){
		"Regs":    func(w api.Watch) { sample.Fill(w.Regs[1:], api.Registration{Id: 999}) },
		"Filter":  func(w api.Watch) { sample.Fill(w.Regs[0].Options.Filter[1:], "spoilt") },
		"Queues":  func(w api.Watch) { sample.Fill(w.Queues[1:], []api.Record{{Old: "spoilt"}}) },
		"records": func(w api.Watch) { sample.SpoilRecords(w.Queues[0][1:]) },
		"OldData": func(w api.Watch) { sample.SpoilRecord(api.Record{OldData: w.Queues[0][0].OldData[1:]}) },
		"Added":   func(w api.Watch) { sample.SpoilRecord(api.Record{Added: w.Queues[0][0].Added[1:]}) },
		"Removed": func(w api.Watch) { sample.SpoilRecord(api.Record{Removed: w.Queues[0][0].Removed[1:]}) },
	} {
		w := sample.RoomyWatch(all())
		write(w)
		if !sample.SpoiltWatch(w) || !sample.SameWatch(w, all()) {
			t.Error("what is written behind it is not seen:", what)
		}
	}
}

// Watches are the same only if all their fields are.
func TestSameWatch(t *testing.T) {
	for what, turn := range map[string]func(w *api.Watch){
		"Next":     func(w *api.Watch) { w.Next++ },
		"Id":       func(w *api.Watch) { w.Regs[0].Id++ },
		"Observer": func(w *api.Watch) { w.Regs[0].Observer++ },
		"Node":     func(w *api.Watch) { w.Regs[0].Node++ },
		"Source":   func(w *api.Watch) { w.Regs[0].Source++ },
		"no Regs":  func(w *api.Watch) { w.Regs = nil },
		"Kids":     func(w *api.Watch) { w.Regs[0].Options.Kids = false },
		"Subtree":  func(w *api.Watch) { w.Regs[0].Options.Subtree = true },
		"Attrs":    func(w *api.Watch) { w.Regs[0].Options.Attrs++ },
		"Data":     func(w *api.Watch) { w.Regs[0].Options.Data++ },
		"OldAttr":  func(w *api.Watch) { w.Regs[0].Options.OldAttr++ },
		"OldData":  func(w *api.Watch) { w.Regs[0].Options.OldData++ },
		"Filters":  func(w *api.Watch) { w.Regs[0].Options.Filters = false },
		"Filter":   func(w *api.Watch) { w.Regs[0].Options.Filter = []string{"b"} },
		"a queue":  func(w *api.Watch) { w.Queues = append(w.Queues, nil) },
		"a record": func(w *api.Watch) { w.Queues[0] = nil },
		"Kind":     func(w *api.Watch) { w.Queues[0][0].Kind++ },
		"Target":   func(w *api.Watch) { w.Queues[0][0].Target++ },
		"Local":    func(w *api.Watch) { w.Queues[0][0].Local = "x" },
		"Space":    func(w *api.Watch) { w.Queues[0][0].Space = "x" },
		"Has":      func(w *api.Watch) { w.Queues[0][0].Has = true },
		"Old":      func(w *api.Watch) { w.Queues[0][0].Old = "x" },
		"old data": func(w *api.Watch) { w.Queues[0][0].OldData = nil },
		"Added":    func(w *api.Watch) { w.Queues[0][0].Added = nil },
		"Removed":  func(w *api.Watch) { w.Queues[0][0].Removed = nil },
		"Prev":     func(w *api.Watch) { w.Queues[0][0].Prev++ },
		"the next": func(w *api.Watch) { w.Queues[0][0].Next++ },
	} {
		w := all()
		turn(&w)
		if sample.SameWatch(w, all()) {
			t.Error("the same, but for", what)
		}
	}
}
