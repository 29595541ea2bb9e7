package observe

import (
	"slices"

	"canopy/api"
)

// settled has the filter that was handed in: who answers it has a copy made.
func settled(o api.Options) (api.Options, api.Errno) {
	if len(o.Filter) > api.MaxList {
		return api.Options{}, api.ErrMany
	}
	if !said(o.Attrs, o.Data, o.OldAttr, o.OldData) {
		return api.Options{}, api.ErrType
	}
	o.Attrs = implied(o.Attrs, o.Filters || o.OldAttr != api.SaidNone)
	o.Data = implied(o.Data, o.OldData != api.SaidNone)
	if !o.Filters {
		o.Filter = nil
	}
	if !agree(o) {
		return api.Options{}, api.ErrType
	}
	return o, api.OK
}

// said tells whether each of some is yes, no or nothing.
func said(some ...api.Said) bool {
	return !slices.ContainsFunc(some, func(s api.Said) bool { return s >= api.SaidCount })
}

// implied is what an option says where nothing was said, but something that goes with it was.
func implied(s api.Said, is bool) api.Said {
	if s == api.SaidNone && is {
		return api.SaidYes
	}
	return s
}

// agree tells whether settled options ask for something, and for no more of a thing than for the thing itself.
func agree(o api.Options) bool {
	attrs, data := o.Attrs == api.SaidYes, o.Data == api.SaidYes
	return (o.Kids || attrs || data) &&
		(attrs || o.OldAttr != api.SaidYes && !o.Filters) &&
		(data || o.OldData != api.SaidYes)
}

// areSettled tells whether options are their own settling: no field but these is ever turned by it.
func areSettled(o api.Options) bool {
	s, why := settled(o)
	return why == api.OK && s.Attrs == o.Attrs && s.Data == o.Data && len(s.Filter) == len(o.Filter)
}
