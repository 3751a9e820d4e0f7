// Package parts has what the layers share of queries, schemas, states and events: what something of them is called, where it is, what it may be, and copies.
package parts

import (
	"cmp"
	"slices"

	"halyard/api"
)

// IdName is what the id of every thing is called, so that no field may be.
const IdName = "id"

// Called: what a select is called in the answer.
func Called(s api.Select) string {
	if s.Alias != "" {
		return s.Alias
	}
	return s.Name
}

// First element of a list that is wanted, and whether there is one.
func First[E any](l []E, wanted func(e E) bool) (E, bool) {
	i := slices.IndexFunc(l, wanted)
	if i < 0 {
		var none E
		return none, false
	}
	return l[i], true
}

// TypeNamed: the number of the first type of a name, or -1.
func TypeNamed(types []api.Type, name string) int {
	return slices.IndexFunc(types, func(t api.Type) bool { return t.Name == name })
}

// FieldNamed: the number of the first field of a name, or -1.
func FieldNamed(fields []api.Field, name string) int {
	return slices.IndexFunc(fields, func(f api.Field) bool { return f.Name == name })
}

// Order of things: below 0, if a stands ahead of b; 0, if they stand in one place; else above.
func Order(a, b api.Thing) int {
	return cmp.Or(cmp.Compare(a.Type, b.Type), cmp.Compare(a.Id, b.Id))
}

// ThingAt: where in things, which stand in order, that of a type and an id is, or would be; and whether it is there.
func ThingAt(things []api.Thing, of, id int) (int, bool) {
	return slices.BinarySearchFunc(things, api.Thing{Type: of, Id: id}, Order)
}

// CloneState: the same state in new memory.
func CloneState(s api.State) api.State {
	return api.State{Types: CloneTypes(s.Types), Things: cloned(s.Things, cloneThing)}
}

// CloneTypes: the same types in new memory.
func CloneTypes(types []api.Type) []api.Type {
	return cloned(types, func(t api.Type) api.Type {
		return api.Type{Name: t.Name, Fields: CloneList(t.Fields)}
	})
}

func cloneThing(t api.Thing) api.Thing {
	t.Cells = cloned(t.Cells, func(c api.Cell) api.Cell {
		c.Ids = CloneList(c.Ids)
		return c
	})
	return t
}

// cloned: a new list of what clone makes of each element.
func cloned[E any](l []E, clone func(E) E) []E {
	var out []E
	for _, e := range l {
		out = append(out, clone(e))
	}
	return out
}

// CloneList: the same list in new memory. (That of slices keeps hold of the old memory, if the list is empty.)
func CloneList[E any](l []E) []E {
	return append([]E(nil), l...)
}
