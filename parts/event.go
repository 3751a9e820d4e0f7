package parts

import "halyard/api"

// WrongShape: what is wrong with an event by itself, whatever its numbers and its text are: it is of no kind, or has something that its kind does not name.
func WrongShape(e api.Event) api.Errno {
	switch {
	case !IsEventKind(e.Kind):
		return api.ErrKind
	case e.Field != 0 && !NamesField(e.Kind):
		return api.ErrForm
	case e.N != 0 && !NamesNumber(e.Kind):
		return api.ErrForm
	case e.Text != "" && !NamesText(e.Kind):
		return api.ErrForm
	}
	return api.OK
}

// IsEventKind: whether there are events of a kind.
func IsEventKind(kind int) bool {
	return api.EventMake <= kind && kind <= api.EventCut
}

// NamesField: whether events of a kind name Field.
func NamesField(kind int) bool {
	return NamesNumber(kind) || NamesText(kind)
}

// NamesNumber: whether events of a kind name N.
func NamesNumber(kind int) bool {
	return kind == api.EventNumber || kind == api.EventLink || kind == api.EventCut
}

// NamesText: whether events of a kind name Text.
func NamesText(kind int) bool {
	return kind == api.EventText
}
