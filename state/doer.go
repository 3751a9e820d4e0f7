package state

import (
	"slices"

	"halyard/api"
	"halyard/parts"
)

// doer does an event to a state, which is its own. With an error, the state may be left half done.
type doer struct {
	api.State
	event api.Event
}

func (d *doer) do() api.Errno {
	at, there := parts.ThingAt(d.Things, d.event.Type, d.event.Id)
	switch {
	case d.event.Kind == api.EventMake && there:
		return api.ErrTwice
	case d.event.Kind == api.EventMake:
		return d.makeThing(at)
	case !there:
		return api.ErrNone
	case d.event.Kind == api.EventDrop:
		return d.drop(at)
	}
	return d.change(at)
}

// makeThing that will stand at a place.
func (d *doer) makeThing(at int) api.Errno {
	if len(d.Things) >= api.MaxThings {
		return api.ErrMany
	}
	cells := make([]api.Cell, len(d.Types[d.event.Type].Fields))
	d.Things = slices.Insert(d.Things, at, api.Thing{Type: d.event.Type, Id: d.event.Id, Cells: cells})
	return api.OK
}

// drop the thing at a place.
func (d *doer) drop(at int) api.Errno {
	name := d.Types[d.event.Type].Name
	no := eachCell(d.Types, d.Things, func(of api.Field, c api.Cell) api.Errno {
		if of.Of == name && slices.Contains(c.Ids, d.event.Id) {
			return api.ErrState
		}
		return api.OK
	})
	if no == api.OK {
		d.Things = slices.Delete(d.Things, at, at+1)
	}
	return no
}

// change a cell of the thing at a place.
func (d *doer) change(at int) api.Errno {
	fields := d.Types[d.event.Type].Fields
	if !parts.IsIndex(d.event.Field, len(fields)) {
		return api.ErrNone
	}
	of := fields[d.event.Field]
	if !suits(d.event.Kind, of.Kind) {
		return api.ErrKind
	}
	cell := &d.Things[at].Cells[d.event.Field]
	if no := d.set(of, cell); no != api.OK {
		return no
	}
	return wrongCell(of, *cell)
}

// suits: whether an event of a kind changes a field of a kind.
func suits(event, field int) bool {
	switch event {
	case api.EventNumber:
		return field == api.FieldNumber
	case api.EventText:
		return field == api.FieldText
	}
	return field == api.FieldOne || field == api.FieldMany
}

// set a cell, be it too great then, or have too many ids.
func (d *doer) set(of api.Field, cell *api.Cell) api.Errno {
	switch d.event.Kind {
	case api.EventNumber:
		cell.N = d.event.N
	case api.EventText:
		cell.Text = d.event.Text
	case api.EventLink:
		return d.link(of, cell)
	case api.EventCut:
		return d.cut(cell)
	}
	return api.OK
}

func (d *doer) link(of api.Field, cell *api.Cell) api.Errno {
	if _, there := parts.ThingAt(d.Things, parts.TypeNamed(d.Types, of.Of), d.event.N); !there {
		return api.ErrNone
	}
	at, has := slices.BinarySearch(cell.Ids, d.event.N)
	switch {
	case has:
		return api.ErrTwice
	case of.Kind == api.FieldOne:
		cell.Ids = []int{d.event.N}
	default:
		cell.Ids = slices.Insert(cell.Ids, at, d.event.N)
	}
	return api.OK
}

func (d *doer) cut(cell *api.Cell) api.Errno {
	at, has := slices.BinarySearch(cell.Ids, d.event.N)
	if !has {
		return api.ErrNone
	}
	cell.Ids = slices.Delete(cell.Ids, at, at+1)
	return api.OK
}
