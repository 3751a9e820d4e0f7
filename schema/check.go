package schema

import (
	"halyard/api"
	"halyard/parts"
	"halyard/tokens"
)

// wrongType: what is wrong with type i of a schema.
func wrongType(l []api.Type, i int) api.Errno {
	t := l[i]
	if no := tokens.WrongName(t.Name); no != api.OK {
		return no
	}
	switch {
	case t.Name == wordNumber || t.Name == wordText:
		return api.ErrState
	case parts.TypeNamed(l[:i], t.Name) >= 0:
		return api.ErrTwice
	case len(t.Fields) == 0:
		return api.ErrNone
	case len(t.Fields) > api.MaxFields:
		return api.ErrMany
	}
	for j := range t.Fields {
		if no := wrongField(l, t.Fields, j); no != api.OK {
			return no
		}
	}
	return api.OK
}

// wrongField: what is wrong with field j of a type's fields.
func wrongField(l []api.Type, fields []api.Field, j int) api.Errno {
	f := fields[j]
	if no := tokens.WrongName(f.Name); no != api.OK {
		return no
	}
	switch {
	case f.Name == parts.IdName:
		return api.ErrState
	case parts.FieldNamed(fields[:j], f.Name) >= 0:
		return api.ErrTwice
	}
	return wrongKind(l, f)
}

// wrongKind: what is wrong with a field's kind, and with the type that it is of.
func wrongKind(l []api.Type, f api.Field) api.Errno {
	switch f.Kind {
	case api.FieldNumber, api.FieldText:
		if f.Of != "" {
			return api.ErrForm
		}
	case api.FieldOne, api.FieldMany:
		if parts.TypeNamed(l, f.Of) < 0 {
			return api.ErrNone
		}
	default:
		return api.ErrKind
	}
	return api.OK
}
