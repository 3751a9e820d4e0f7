package valid

import (
	"halyard/api"
	"halyard/parts"
)

// wordFirst is the arg by which a select takes some of the things that a field has.
const wordFirst = "first"

// offer: what may be selected at a place, and the arg, from low to high, that each FieldMany takes there.
type offer struct {
	fields    []api.Field
	arg       string
	low, high int
}

// ofQuery: what may be selected of all that is there. That is as if it had things of every type, so a type is a FieldMany of it.
func ofQuery(types []api.Type) offer {
	o := offer{arg: parts.IdName, low: 1, high: api.MaxId}
	for _, t := range types {
		o.fields = append(o.fields, api.Field{Name: t.Name, Kind: api.FieldMany, Of: t.Name})
	}
	return o
}

// ofType: what may be selected of a thing.
func ofType(t api.Type) offer {
	id := api.Field{Name: parts.IdName, Kind: api.FieldNumber}
	return offer{fields: append([]api.Field{id}, t.Fields...), arg: wordFirst, low: 0, high: api.MaxInt}
}

// taken: the field that a select takes, or what is wrong with the select, but not with what is selected of it.
func (o offer) taken(s api.Select) (api.Field, api.Errno) {
	i := parts.FieldNamed(o.fields, s.Name)
	if i < 0 {
		return api.Field{}, api.ErrNone
	}
	f := o.fields[i]
	for _, a := range s.Args {
		if no := o.wrongArg(f, a); no != api.OK {
			return api.Field{}, no
		}
	}
	if hasThings(f) != (len(s.Kids) > 0) {
		return api.Field{}, api.ErrState
	}
	return f, api.OK
}

// wrongArg: what is wrong with an arg of a select that takes a field.
func (o offer) wrongArg(f api.Field, a api.Arg) api.Errno {
	switch {
	case a.Name != o.arg || f.Kind != api.FieldMany:
		return api.ErrNone
	case a.IsText:
		return api.ErrKind
	case a.N < o.low || a.N > o.high:
		return api.ErrRange
	}
	return api.OK
}

// hasThings: whether a field has things, of which something must be selected.
func hasThings(f api.Field) bool {
	return f.Kind == api.FieldOne || f.Kind == api.FieldMany
}
