package state

import (
	"halyard/api"
	"halyard/parts"
)

// eachCell: what asked answers of the cells of things, one by one, up to the first that is not OK.
func eachCell(types []api.Type, things []api.Thing, asked func(of api.Field, c api.Cell) api.Errno) api.Errno {
	for _, t := range things {
		for i, c := range t.Cells {
			if no := asked(types[t.Type].Fields[i], c); no != api.OK {
				return no
			}
		}
	}
	return api.OK
}

// wrongThing: what is wrong with thing i of a state, those ahead of it being right.
func wrongThing(s api.State, i int) api.Errno {
	t := s.Things[i]
	switch {
	case !parts.IsIndex(t.Type, len(s.Types)):
		return api.ErrNone
	case !parts.IsId(t.Id):
		return api.ErrRange
	case len(t.Cells) != len(s.Types[t.Type].Fields):
		return api.ErrForm
	}
	if no := eachCell(s.Types, s.Things[i:i+1], wrongCell); no != api.OK {
		return no
	}
	if i > 0 && parts.Order(s.Things[i-1], t) >= 0 {
		return api.ErrState
	}
	return api.OK
}

// wrongCell: what is wrong with a cell of a field, but for what its ids mean.
func wrongCell(of api.Field, c api.Cell) api.Errno {
	switch {
	case !onlyNamed(of.Kind, c):
		return api.ErrForm
	case !parts.IsInt(c.N):
		return api.ErrRange
	case len(c.Text) > api.MaxWords || len(c.Ids) > mostIds(of.Kind):
		return api.ErrMany
	case !rise(c.Ids):
		return api.ErrState
	}
	return api.OK
}

// onlyNamed: whether a cell has nothing but what its field's kind names.
func onlyNamed(kind int, c api.Cell) bool {
	switch kind {
	case api.FieldNumber:
		return c.Text == "" && len(c.Ids) == 0
	case api.FieldText:
		return c.N == 0 && len(c.Ids) == 0
	}
	return c.N == 0 && c.Text == ""
}

// mostIds that a cell may have.
func mostIds(kind int) int {
	if kind == api.FieldOne {
		return 1
	}
	return api.MaxIds
}

// rise: whether each number is greater than the one ahead.
func rise(l []int) bool {
	for i := 1; i < len(l); i++ {
		if l[i-1] >= l[i] {
			return false
		}
	}
	return true
}

// wrongIds: whether each id means something, of a state that is right but for that.
func wrongIds(s api.State) api.Errno {
	return eachCell(s.Types, s.Things, func(of api.Field, c api.Cell) api.Errno {
		for _, id := range c.Ids {
			if _, there := parts.ThingAt(s.Things, parts.TypeNamed(s.Types, of.Of), id); !there {
				return api.ErrNone
			}
		}
		return api.OK
	})
}

// wrongEvent: what is wrong with an event, whatever things there are.
func wrongEvent(types []api.Type, e api.Event) api.Errno {
	if no := parts.WrongShape(e); no != api.OK {
		return no
	}
	switch {
	case !parts.IsIndex(e.Type, len(types)):
		return api.ErrNone
	case !parts.IsId(e.Id):
		return api.ErrRange
	}
	return api.OK
}
