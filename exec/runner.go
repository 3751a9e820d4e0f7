package exec

import (
	"halyard/api"
	"halyard/parts"
)

// runner answers what is selected of a state that is right, by a query that fits it.
type runner struct {
	api.State
}

// owner answers what is selected of one thing of the state.
type owner struct {
	runner
	api.Thing
}

// mapOf selects: a key for each, and the out that is made of it.
func mapOf(l []api.Select, made func(s api.Select) api.Out) api.Out {
	o := api.Out{Kind: api.OutMap}
	for _, s := range l {
		o.Keys = append(o.Keys, parts.Called(s))
		o.List = append(o.List, made(s))
	}
	return o
}

// ofQuery: what is made of a select of the query itself.
func (r runner) ofQuery(s api.Select) api.Out {
	of := parts.TypeNamed(r.Types, s.Name)
	if id, has := argOf(s); has {
		return r.one(of, id, s.Kids)
	}
	return r.many(of, r.idsOf(of), s.Kids)
}

// ofThing: what is made of a select of a thing.
func (w owner) ofThing(s api.Select) api.Out {
	if s.Name == parts.IdName {
		return api.Out{Kind: api.OutNumber, N: w.Id}
	}
	fields := w.Types[w.Type].Fields
	i := parts.FieldNamed(fields, s.Name)
	return w.ofCell(fields[i], w.Cells[i], s)
}

// ofCell: what is made of a select of a field that has a cell.
func (r runner) ofCell(f api.Field, c api.Cell, s api.Select) api.Out {
	switch f.Kind {
	case api.FieldNumber:
		return api.Out{Kind: api.OutNumber, N: c.N}
	case api.FieldText:
		return api.Out{Kind: api.OutText, Text: c.Text}
	}
	of, ids := parts.TypeNamed(r.Types, f.Of), c.Ids
	if f.Kind == api.FieldMany {
		if first, has := argOf(s); has {
			ids = ids[:min(first, len(ids))]
		}
		return r.many(of, ids, s.Kids)
	}
	if len(ids) == 0 {
		return api.Out{Kind: api.OutNone}
	}
	return r.one(of, ids[0], s.Kids)
}

// one thing: its map, or OutNone, if it is not there.
func (r runner) one(of, id int, l []api.Select) api.Out {
	at, there := parts.ThingAt(r.Things, of, id)
	if !there {
		return api.Out{Kind: api.OutNone}
	}
	return mapOf(l, owner{r, r.Things[at]}.ofThing)
}

// many things: a list of what each of them is.
func (r runner) many(of int, ids []int, l []api.Select) api.Out {
	o := api.Out{Kind: api.OutList}
	for _, id := range ids {
		o.List = append(o.List, r.one(of, id, l))
	}
	return o
}

// idsOf all things of a type, rising, as things do.
func (r runner) idsOf(of int) []int {
	var ids []int
	for _, t := range r.Things {
		if t.Type == of {
			ids = append(ids, t.Id)
		}
	}
	return ids
}

// argOf a select: its number, and whether there is one. A query that fits has no arg but the one that its place takes, and that once.
func argOf(s api.Select) (int, bool) {
	if len(s.Args) == 0 {
		return 0, false
	}
	return s.Args[0].N, true
}
