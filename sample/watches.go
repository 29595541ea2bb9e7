package sample

import (
	"slices"

	"canopy/api"
)

// Options are settled, and ask for something: most often for all of a tree.
func Options(d *Dice) api.Options {
	o := api.Options{Kids: d.Below(2) == 0, Subtree: d.Below(3) > 0}
	o.Attrs, o.OldAttr = saids(d)
	o.Data, o.OldData = saids(d)
	if o.Attrs == api.SaidYes && d.Below(3) == 0 {
		o.Filters = true
		for range d.Below(4) {
			o.Filter = append(o.Filter, []string{"slot", "name", "class"}[d.Below(3)])
		}
	}
	o.Kids = o.Kids || o.Attrs != api.SaidYes && o.Data != api.SaidYes
	return o
}

// saids is what options say of a thing, and of the old one, so that both agree.
func saids(d *Dice) (api.Said, api.Said) {
	switch d.Below(6) {
	case 0:
		return api.SaidNone, api.SaidNone
	case 1:
		return api.SaidNo, []api.Said{api.SaidNone, api.SaidNo}[d.Below(2)]
	}
	return api.SaidYes, api.Said(d.Below(int(api.SaidCount)))
}

// Watch is a right one of a forest with some nodes: so many observers, which have a few records each, and n registrations at most, with gaps between their Ids, some of which have a Source.
func Watch(d *Dice, f api.Forest, observers, n int) api.Watch {
	w := api.Watch{Next: 1 + d.Below(3)}
	for range observers {
		var queue []api.Record
		for range d.Below(3) {
			queue = append(queue, Record(d))
		}
		w.Queues = append(w.Queues, queue)
	}
	for range n {
		r := api.Registration{Id: w.Next, Observer: 1 + d.Below(observers), Node: 1 + d.Below(len(f.Nodes)), Options: Options(d)}
		if d.Below(4) == 0 {
			r.Source = d.Below(r.Id)
		}
		if observers > 0 && (r.Source != 0 || !isAsked(w, r)) {
			w.Regs, w.Next = append(w.Regs, r), w.Next+1+d.Below(3)
		}
	}
	return w
}

// isAsked tells whether an observer watches a node already, because it was asked for.
func isAsked(w api.Watch, r api.Registration) bool {
	return slices.ContainsFunc(w.Regs, func(x api.Registration) bool {
		return x.Source == 0 && x.Observer == r.Observer && x.Node == r.Node
	})
}

// Record is one of any kind.
func Record(d *Dice) api.Record {
	target := 1 + d.Below(9)
	switch d.Below(3) {
	case 0:
		return api.Record{Kind: api.RecordAttr, Target: target, Local: word(d), Has: true, Old: word(d)}
	case 1:
		return api.Record{Kind: api.RecordData, Target: target, Has: true, OldData: Data(d)}
	}
	return api.Record{Kind: api.RecordTree, Target: target, Added: []int{d.Below(9), 2}, Removed: []int{d.Below(9)}, Prev: d.Below(9), Next: d.Below(9)}
}

// CopyWatch has lists of its own in every part.
func CopyWatch(w api.Watch) api.Watch {
	v := api.Watch{Next: w.Next}
	for _, r := range w.Regs {
		r.Options.Filter = append([]string(nil), r.Options.Filter...)
		v.Regs = append(v.Regs, r)
	}
	for _, queue := range w.Queues {
		v.Queues = append(v.Queues, CopyRecords(queue))
	}
	return v
}

// CopyRecords has lists of its own in every record.
func CopyRecords(l []api.Record) []api.Record {
	var m []api.Record
	for _, r := range l {
		r.OldData = append(api.Units(nil), r.OldData...)
		r.Added, r.Removed = append([]int(nil), r.Added...), append([]int(nil), r.Removed...)
		m = append(m, r)
	}
	return m
}

// RoomyWatch is a copy that has room behind each list.
func RoomyWatch(w api.Watch) api.Watch {
	v := CopyWatch(w)
	for i, r := range v.Regs {
		v.Regs[i].Options.Filter = roomy(r.Options.Filter)
	}
	for i, queue := range v.Queues {
		for j, r := range queue {
			queue[j].OldData, queue[j].Added, queue[j].Removed = roomy(r.OldData), roomy(r.Added), roomy(r.Removed)
		}
		v.Queues[i] = roomy(queue)
	}
	v.Regs, v.Queues = roomy(v.Regs), roomy(v.Queues)
	return v
}

// SameWatch goes by what lists hold, so that nil and empty ones are alike.
func SameWatch(a, b api.Watch) bool {
	return a.Next == b.Next && slices.EqualFunc(a.Regs, b.Regs, sameReg) && slices.EqualFunc(a.Queues, b.Queues, SameRecords)
}

func sameReg(a, b api.Registration) bool {
	return a.Id == b.Id && a.Observer == b.Observer && a.Node == b.Node && a.Source == b.Source && SameOptions(a.Options, b.Options)
}

// SameOptions holds options against each other in all fields.
func SameOptions(a, b api.Options) bool {
	return a.Kids == b.Kids && a.Subtree == b.Subtree && a.Attrs == b.Attrs && a.Data == b.Data &&
		a.OldAttr == b.OldAttr && a.OldData == b.OldData && a.Filters == b.Filters && slices.Equal(a.Filter, b.Filter)
}

// SameRecords holds records against each other in all fields.
func SameRecords(l, m []api.Record) bool { return slices.EqualFunc(l, m, sameRecord) }

func sameRecord(a, b api.Record) bool {
	return a.Kind == b.Kind && a.Target == b.Target && a.Local == b.Local && a.Space == b.Space && a.Has == b.Has &&
		a.Old == b.Old && a.Prev == b.Prev && a.Next == b.Next &&
		slices.Equal(a.OldData, b.OldData) && slices.Equal(a.Added, b.Added) && slices.Equal(a.Removed, b.Removed)
}

// SpoilWatch writes over all lists of a watch, and over the room behind them.
func SpoilWatch(w api.Watch) {
	for _, r := range w.Regs[:cap(w.Regs)] {
		Fill(r.Options.Filter, spoiltValue)
	}
	Fill(w.Regs, api.Registration{Id: spoiltHandle})
	for _, queue := range w.Queues[:cap(w.Queues)] {
		SpoilRecords(queue)
	}
	Fill(w.Queues, []api.Record{{Old: spoiltValue}})
}

// SpoilRecords writes over records, all lists in them, and over the room behind these.
func SpoilRecords(l []api.Record) {
	for _, r := range l[:cap(l)] {
		SpoilRecord(r)
	}
	Fill(l, api.Record{Old: spoiltValue})
}

// SpoilRecord writes over the lists of one.
func SpoilRecord(r api.Record) {
	Fill(r.OldData, spoiltUnit)
	Fill(r.Added, spoiltHandle)
	Fill(r.Removed, spoiltHandle)
}

// SpoiltWatch tells whether a list of a watch, or the room behind it, was written over.
func SpoiltWatch(w api.Watch) bool {
	regs := slices.ContainsFunc(w.Regs[:cap(w.Regs)], func(r api.Registration) bool {
		return r.Id == spoiltHandle || has(r.Options.Filter, spoiltValue)
	})
	return regs || slices.ContainsFunc(w.Queues[:cap(w.Queues)], spoiltRecords)
}

func spoiltRecords(l []api.Record) bool {
	return slices.ContainsFunc(l[:cap(l)], func(r api.Record) bool {
		return r.Old == spoiltValue || has(r.OldData, spoiltUnit) || has(r.Added, spoiltHandle) || has(r.Removed, spoiltHandle)
	})
}
