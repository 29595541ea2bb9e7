package observe

import "canopy/api"

// way is what registrations are asked about records of a kind.
type way struct {
	interested func(asker, api.Record) bool
	old        func(api.Options) api.Said
}

func ways() [api.RecordCount]way {
	return [api.RecordCount]way{
		api.RecordAttr: {ofAttr, func(o api.Options) api.Said { return o.OldAttr }},
		api.RecordData: {ofData, func(o api.Options) api.Said { return o.OldData }},
		api.RecordTree: {ofTree, func(api.Options) api.Said { return api.SaidNone }},
	}
}

// wishes is 1, if a registration wants the old one, so that an observer's can be counted.
func (w way) wishes(x asker) int {
	if w.old(x.Options) == api.SaidYes {
		return 1
	}
	return 0
}

func ofAttr(x asker, r api.Record) bool {
	return x.Options.Attrs == api.SaidYes && (!x.Options.Filters || r.Space == "" && x.named(r.Local))
}

func ofData(x asker, _ api.Record) bool { return x.Options.Data == api.SaidYes }

func ofTree(x asker, _ api.Record) bool { return x.Options.Kids }
