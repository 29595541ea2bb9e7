package observe_test

import (
	"testing"

	"canopy/api"
	"canopy/observe"
	"canopy/sample"
)

// everyOptions hands on all there are, with each Said at each of the three and at two that are none, and a filter of each length that matters.
func everyOptions(try func(api.Options)) {
	says := []api.Said{api.SaidNone, api.SaidYes, api.SaidNo, api.SaidCount, 255}
	for bits := range 8 {
		o := api.Options{Kids: bits&1 != 0, Subtree: bits&2 != 0, Filters: bits&4 != 0}
		for _, o.Attrs = range says {
			for _, o.Data = range says {
				for _, o.OldAttr = range says {
					for _, o.OldData = range says {
						for _, o.Filter = range [][]string{nil, {}, {"a", "", "a"}} {
							try(o)
						}
					}
				}
			}
		}
	}
}

// modelSettle is what the words say of options whose filter is not too long.
func modelSettle(o api.Options) (api.Options, bool) {
	for _, s := range []api.Said{o.Attrs, o.Data, o.OldAttr, o.OldData} {
		if s != api.SaidNone && s != api.SaidYes && s != api.SaidNo {
			return api.Options{}, false
		}
	}
	s := o
	if o.Attrs == api.SaidNone && o.OldAttr != api.SaidNone {
		s.Attrs = api.SaidYes
	}
	if o.Attrs == api.SaidNone && o.Filters {
		s.Attrs = api.SaidYes
	}
	if o.Data == api.SaidNone && o.OldData != api.SaidNone {
		s.Data = api.SaidYes
	}
	if !o.Filters {
		s.Filter = nil
	}
	switch {
	case !s.Kids && s.Attrs != api.SaidYes && s.Data != api.SaidYes:
		return api.Options{}, false
	case s.OldAttr == api.SaidYes && s.Attrs != api.SaidYes:
		return api.Options{}, false
	case s.Filters && s.Attrs != api.SaidYes:
		return api.Options{}, false
	case s.OldData == api.SaidYes && s.Data != api.SaidYes:
		return api.Options{}, false
	}
	return s, true
}

// P24.1, Words (options, settled): all of them.
func TestSettle(t *testing.T) {
	fine, none := 0, 0
	everyOptions(func(o api.Options) {
		want, is := modelSettle(o)
		s, why := observe.Settle(o)
		if is != (why == api.OK) || why != api.OK && why != api.ErrType || !sample.SameOptions(s, want) {
			t.Fatalf("%+v: %+v, error %d", o, s, why)
		}
		if !is {
			none++
			return
		}
		fine++
		if again, why := observe.Settle(s); why != api.OK || !sample.SameOptions(again, s) {
			t.Fatalf("%+v, settled once more: %+v, error %d", s, again, why)
		}
	})
	if fine < 500 || none < 500 {
		t.Error("too few of a kind:", fine, none)
	}
}

// P24.1: what options say, one by one.
func TestSettleOne(t *testing.T) {
	yes, no := api.SaidYes, api.SaidNo
	for what, x := range map[string]struct {
		o, want api.Options
	}{
		"Kids":                    {api.Options{Kids: true}, api.Options{Kids: true}},
		"Attrs":                   {api.Options{Attrs: yes}, api.Options{Attrs: yes}},
		"Data":                    {api.Options{Data: yes}, api.Options{Data: yes}},
		"OldData alone":           {api.Options{OldData: yes}, api.Options{OldData: yes, Data: yes}},
		"OldData, not wished for": {api.Options{OldData: no}, api.Options{OldData: no, Data: yes}},
		"OldAttr, not wished for": {api.Options{OldAttr: no}, api.Options{OldAttr: no, Attrs: yes}},
		"a filter alone":          {api.Options{Filters: true}, api.Options{Filters: true, Attrs: yes}},
		"no filter, but names":    {api.Options{Kids: true, Filter: []string{"a"}}, api.Options{Kids: true}},
		"no to both":              {api.Options{Kids: true, Attrs: no, OldAttr: no}, api.Options{Kids: true, Attrs: no, OldAttr: no}},
	} {
		if s, why := observe.Settle(x.o); why != api.OK || !sample.SameOptions(s, x.want) {
			t.Errorf("%s: %+v, error %d", what, s, why)
		}
	}
	for what, o := range map[string]api.Options{
		"nothing":                      {},
		"Subtree alone":                {Subtree: true},
		"no to all":                    {Attrs: no, Data: no},
		"the old one without Attrs":    {Kids: true, Attrs: no, OldAttr: yes},
		"the old one without Data":     {Kids: true, Data: no, OldData: yes},
		"a filter without Attrs":       {Kids: true, Attrs: no, Filters: true},
		"names without a filter alone": {Filter: []string{"a"}},
		"a Said that is none":          {Kids: true, Attrs: api.SaidCount},
	} {
		if s, why := observe.Settle(o); why != api.ErrType || !sample.SameOptions(s, api.Options{}) {
			t.Errorf("%s: %+v, error %d", what, s, why)
		}
	}
}

// P24.1: no more than MaxList names, ahead of all else that is wrong.
func TestSettleMany(t *testing.T) {
	names := make([]string, api.MaxList+1)
	o := api.Options{Filters: true, Filter: names[1:]}
	if s, why := observe.Settle(o); why != api.OK || len(s.Filter) != api.MaxList || s.Attrs != api.SaidYes {
		t.Error("as many as may be:", len(s.Filter), why)
	}
	for what, o := range map[string]api.Options{
		"one more":                 {Filters: true, Filter: names},
		"one more, and no filter":  {Kids: true, Filter: names},
		"one more, of nothing":     {Filter: names},
		"one more, without Attrs":  {Filters: true, Filter: names, Attrs: api.SaidNo},
		"one more, no such answer": {Filters: true, Filter: names, Attrs: api.SaidCount},
	} {
		if s, why := observe.Settle(o); why != api.ErrMany || !sample.SameOptions(s, api.Options{}) {
			t.Errorf("%s: error %d", what, why)
		}
	}
}
