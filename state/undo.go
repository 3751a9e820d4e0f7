package state

import "halyard/api"

// undrop: the event that makes the thing at a place anew. An event makes no more of it than it was at first, so it must still be that.
func undrop(s api.State, at int) (api.Event, api.Errno) {
	no := eachCell(s.Types, s.Things[at:at+1], func(_ api.Field, c api.Cell) api.Errno {
		if c.N != 0 || c.Text != "" || len(c.Ids) > 0 {
			return api.ErrState
		}
		return api.OK
	})
	if no != api.OK {
		return api.Event{}, no
	}
	return api.Event{Kind: api.EventMake, Type: s.Things[at].Type, Id: s.Things[at].Id}, api.OK
}

// unchange: the event that makes a cell of a field as it was ahead of e.
func unchange(of api.Field, was api.Cell, e api.Event) api.Event {
	switch e.Kind {
	case api.EventNumber:
		e.N = was.N
	case api.EventText:
		e.Text = was.Text
	case api.EventCut:
		e.Kind = api.EventLink
	case api.EventLink:
		if of.Kind == api.FieldOne && len(was.Ids) > 0 {
			e.N = was.Ids[0]
		} else {
			e.Kind = api.EventCut
		}
	}
	return e
}
