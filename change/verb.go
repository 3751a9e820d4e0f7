package change

import (
	"slices"

	"halyard/api"
	"halyard/parts"
)

const (
	argType  = "type"
	argField = "field"
)

// verb: what a select of a change asks for: its name, the kind of event that it is, and the arg that says what happens to a field (empty, if nothing does).
type verb struct {
	name  string
	kind  int
	value string
}

// verbs that there are. Two have one name where an arg may stand instead of another one.
func verbs() []verb {
	return []verb{
		{"make", api.EventMake, ""},
		{"drop", api.EventDrop, ""},
		{"set", api.EventNumber, "number"},
		{"set", api.EventText, "text"},
		{"link", api.EventLink, "to"},
		{"cut", api.EventCut, "to"},
	}
}

// args that a verb takes, each without what it is.
func (v verb) args() []api.Arg {
	args := []api.Arg{{Name: argType, IsText: true}, {Name: parts.IdName}}
	if parts.NamesField(v.kind) {
		args = append(args, api.Arg{Name: argField, IsText: true}, api.Arg{Name: v.value, IsText: parts.NamesText(v.kind)})
	}
	return args
}

// takes: whether args, no two of one name, are just those of a verb, by name.
func (v verb) takes(given []api.Arg) bool {
	wanted := v.args()
	missing := func(a api.Arg) bool { return !slices.ContainsFunc(given, named(a.Name)) }
	return len(given) == len(wanted) && !slices.ContainsFunc(wanted, missing)
}

// suits: whether args that a verb takes are texts and numbers where they must be.
func (v verb) suits(given []api.Arg) bool {
	other := func(a api.Arg) bool { return argNamed(given, a.Name).IsText != a.IsText }
	return !slices.ContainsFunc(v.args(), other)
}

// named: what looks for an arg of a name.
func named(name string) func(a api.Arg) bool {
	return func(a api.Arg) bool { return a.Name == name }
}

// argNamed: the arg of a name, which is there.
func argNamed(given []api.Arg, name string) api.Arg {
	a, _ := parts.First(given, named(name))
	return a
}
