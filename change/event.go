package change

import (
	"slices"

	"halyard/api"
	"halyard/parts"
)

// eventOf a select of a change, or what is wrong with it.
func eventOf(types []api.Type, asked api.Select) (api.Event, api.Errno) {
	if len(asked.Kids) > 0 {
		return api.Event{}, api.ErrState
	}
	v, no := verbOf(asked)
	if no != api.OK {
		return api.Event{}, no
	}
	return v.event(types, asked.Args)
}

// verbOf a select whose args suit it, or what is wrong with its name or with those.
func verbOf(asked api.Select) (verb, api.Errno) {
	called := func(v verb) bool { return v.name == asked.Name }
	if !slices.ContainsFunc(verbs(), called) {
		return verb{}, api.ErrNone
	}
	v, there := parts.First(verbs(), func(v verb) bool { return called(v) && v.takes(asked.Args) })
	if !there {
		return verb{}, api.ErrForm
	}
	if !v.suits(asked.Args) {
		return verb{}, api.ErrKind
	}
	return v, api.OK
}

// event that a verb is with args that suit it. Whether it can be done is not looked at.
func (v verb) event(types []api.Type, given []api.Arg) (api.Event, api.Errno) {
	of := parts.TypeNamed(types, argNamed(given, argType).Text)
	if of < 0 {
		return api.Event{}, api.ErrNone
	}
	e := api.Event{Kind: v.kind, Type: of, Id: argNamed(given, parts.IdName).N}
	if !parts.NamesField(v.kind) {
		return e, api.OK
	}
	e.Field = parts.FieldNamed(types[of].Fields, argNamed(given, argField).Text)
	if e.Field < 0 {
		return api.Event{}, api.ErrNone
	}
	// An arg is a text or a number, and what it is not is empty, or 0.
	value := argNamed(given, v.value)
	e.N, e.Text = value.N, value.Text
	return e, api.OK
}
