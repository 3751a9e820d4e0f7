package history

import (
	"math"
	"reflect"
	"slices"
	"strings"
	"testing"

	"halyard/api"
)

// Fields of type A (0), in order; type B (1) has a number m.
const (
	fieldN = iota
	fieldT
	fieldB
	fieldL
)

func kinds() []api.Type {
	return []api.Type{
		{Name: "A", Fields: []api.Field{
			{Name: "n", Kind: api.FieldNumber}, {Name: "t", Kind: api.FieldText},
			{Name: "b", Kind: api.FieldOne, Of: "B"}, {Name: "l", Kind: api.FieldMany, Of: "A"},
		}},
		{Name: "B", Fields: []api.Field{{Name: "m", Kind: api.FieldNumber}}},
	}
}

func makes(of, id int) api.Event { return api.Event{Kind: api.EventMake, Type: of, Id: id} }
func drops(of, id int) api.Event { return api.Event{Kind: api.EventDrop, Type: of, Id: id} }
func number(id, n int) api.Event {
	return api.Event{Kind: api.EventNumber, Id: id, Field: fieldN, N: n}
}
func text(id int, s string) api.Event {
	return api.Event{Kind: api.EventText, Id: id, Field: fieldT, Text: s}
}
func link(id, f, n int) api.Event { return api.Event{Kind: api.EventLink, Id: id, Field: f, N: n} }
func cut(id, f, n int) api.Event  { return api.Event{Kind: api.EventCut, Id: id, Field: f, N: n} }

func thingA(id int, cells ...api.Cell) api.Thing {
	return api.Thing{Type: 0, Id: id, Cells: append(cells, make([]api.Cell, 4-len(cells))...)}
}

func thingB(id int) api.Thing { return api.Thing{Type: 1, Id: id, Cells: make([]api.Cell, 1)} }

func ids(l ...int) api.Cell { return api.Cell{Ids: l} }

func with(things ...api.Thing) api.State { return api.State{Types: kinds(), Things: things} }

// plain: empty lists are as good as none.
func plain(s api.State) api.State {
	out := api.State{Types: append([]api.Type(nil), s.Types...)}
	for i := range out.Types {
		out.Types[i].Fields = append([]api.Field(nil), s.Types[i].Fields...)
	}
	for _, t := range s.Things {
		t.Cells = append([]api.Cell(nil), t.Cells...)
		for i := range t.Cells {
			t.Cells[i].Ids = append([]int(nil), t.Cells[i].Ids...)
		}
		out.Things = append(out.Things, t)
	}
	return out
}

func same(a, b api.State) bool { return reflect.DeepEqual(plain(a), plain(b)) }

func nothing(s api.State) bool { return len(s.Types)+len(s.Things) == 0 }

// story: events, and the state ahead of each; the last one is behind all.
func story() ([]api.Event, []api.State) {
	events := []api.Event{
		makes(0, 1), makes(1, 3), number(1, 5), makes(0, 2), link(1, fieldL, 2), link(1, fieldB, 3), text(2, "x"), cut(1, fieldL, 2), drops(0, 2), number(1, -7),
	}
	five := api.Cell{N: 5}
	return events, []api.State{
		with(),
		with(thingA(1)),
		with(thingA(1), thingB(3)),
		with(thingA(1, five), thingB(3)),
		with(thingA(1, five), thingA(2), thingB(3)),
		with(thingA(1, five, api.Cell{}, api.Cell{}, ids(2)), thingA(2), thingB(3)),
		with(thingA(1, five, api.Cell{}, ids(3), ids(2)), thingA(2), thingB(3)),
		with(thingA(1, five, api.Cell{}, ids(3), ids(2)), thingA(2, api.Cell{}, api.Cell{Text: "x"}), thingB(3)),
		with(thingA(1, five, api.Cell{}, ids(3)), thingA(2, api.Cell{}, api.Cell{Text: "x"}), thingB(3)),
		with(thingA(1, five, api.Cell{}, ids(3)), thingB(3)),
		with(thingA(1, api.Cell{N: -7}, api.Cell{}, ids(3)), thingB(3)),
	}
}

func checkAt(t *testing.T, types []api.Type, l []api.Event, n int, want api.State, wantNo api.Errno) {
	t.Helper()
	got, no := At(types, l, n)
	if no != wantNo || !same(got, want) {
		t.Errorf("At(%v, %d): %v %d, not %v %d", l, n, got, no, want, wantNo)
	}
}

func checkAll(t *testing.T, types []api.Type, l []api.Event, want api.State, wantNo api.Errno) {
	t.Helper()
	got, no := All(types, l)
	if no != wantNo || !same(got, want) {
		t.Errorf("All(%v): %v %d, not %v %d", l, got, no, want, wantNo)
	}
}

func TestE1AllAndAt(t *testing.T) {
	events, states := story()
	for n, want := range states {
		checkAt(t, kinds(), events, n, want, api.OK)
		checkAll(t, kinds(), events[:n], want, api.OK)
	}
	checkAll(t, kinds(), []api.Event{}, with(), api.OK)
	checkAt(t, kinds(), nil, 0, with(), api.OK)
}

// TestE1AllOfMoreThanAGroup: only a group has no more events than MaxEvents.
func TestE1AllOfMoreThanAGroup(t *testing.T) {
	events := []api.Event{makes(0, 1)}
	for i := range 5000 {
		events = append(events, number(1, i))
	}
	checkAll(t, kinds(), events, with(thingA(1, api.Cell{N: 4999})), api.OK)
	checkAt(t, kinds(), events, 3001, with(thingA(1, api.Cell{N: 2999})), api.OK)
}

func TestE1AllAndAtErrors(t *testing.T) {
	none := api.State{}
	events, states := story()
	// Check of the types, ahead of all others.
	for _, c := range []struct {
		types []api.Type
		want  api.Errno
	}{
		{nil, api.ErrNone}, {[]api.Type{}, api.ErrNone}, {make([]api.Type, api.MaxTypes+1), api.ErrMany}, {[]api.Type{{Name: "9"}}, api.ErrForm},
		{[]api.Type{{Name: "Text"}}, api.ErrState}, {append(kinds(), kinds()[0]), api.ErrTwice},
	} {
		for _, n := range []int{0, 1, -1, 99} {
			checkAt(t, c.types, events, n, none, c.want)
		}
		checkAll(t, c.types, events, none, c.want)
		checkAll(t, c.types, nil, none, c.want)
		checkAll(t, c.types, []api.Event{{Kind: 9}}, none, c.want)
	}
	// How many count, ahead of what is wrong with one.
	bad := append(slices.Clone(events), api.Event{Kind: 9}, drops(0, 1), drops(0, 9))
	for _, n := range []int{-1, math.MinInt, len(bad) + 1, math.MaxInt} {
		checkAt(t, kinds(), bad, n, none, api.ErrRange)
		checkAt(t, kinds(), []api.Event{{}}, n, none, api.ErrRange)
		checkAt(t, kinds(), nil, n, none, api.ErrRange)
	}
	checkAt(t, kinds(), nil, 1, none, api.ErrRange)
	// The first error, of those that count.
	checkAt(t, kinds(), bad, len(events), states[len(events)], api.OK)
	for n := len(events) + 1; n <= len(bad); n++ {
		checkAt(t, kinds(), bad, n, none, api.ErrKind)
		checkAll(t, kinds(), bad[:n], none, api.ErrKind)
	}
	checkAll(t, kinds(), []api.Event{makes(0, 1), makes(0, 1), {}}, none, api.ErrTwice)
	checkAll(t, kinds(), []api.Event{makes(0, 0), makes(2, 1)}, none, api.ErrRange)
	checkAll(t, kinds(), []api.Event{makes(2, 1), makes(0, 0)}, none, api.ErrNone)
	checkAll(t, kinds(), []api.Event{makes(0, 1), link(1, fieldL, 1), drops(0, 1), {}}, none, api.ErrState)
	checkAll(t, kinds(), []api.Event{makes(0, 1), {Kind: api.EventNumber, Id: 1, Text: "x"}, {}}, none, api.ErrForm)
}

func TestE1AsManyThingsAsThereMayBe(t *testing.T) {
	var events []api.Event
	var things []api.Thing
	for id := 1; id <= api.MaxThings; id++ {
		events, things = append(events, makes(0, id)), append(things, thingA(id))
	}
	checkAll(t, kinds(), events, with(things...), api.OK)
	events = append(events, makes(1, 1))
	checkAll(t, kinds(), events, api.State{}, api.ErrMany)
	checkAt(t, kinds(), events, api.MaxThings, with(things...), api.OK)
}

// base of groups: A 1 (n 5, b 3, l 2), A 2, B 3, B 4.
func base() api.State {
	return with(thingA(1, api.Cell{N: 5}, api.Cell{}, ids(3), ids(2)), thingA(2), thingB(3), thingB(4))
}

// changed: base, and do.
func changed(do func(s *api.State)) api.State {
	s := base()
	do(&s)
	return s
}

func TestE1GroupAndBack(t *testing.T) {
	for i, c := range []struct {
		l    []api.Event
		want api.State
		back []api.Event
	}{
		{nil, base(), nil},
		{[]api.Event{}, base(), nil},
		{[]api.Event{number(1, 6)}, changed(func(s *api.State) { s.Things[0].Cells[fieldN].N = 6 }), []api.Event{number(1, 5)}},
		// What was there ahead of each, not ahead of all.
		{[]api.Event{number(1, 6), number(1, 7), text(1, "x"), number(1, 8), text(1, "y")}, changed(func(s *api.State) {
			s.Things[0].Cells[fieldN].N, s.Things[0].Cells[fieldT].Text = 8, "y"
		}), []api.Event{text(1, "x"), number(1, 7), text(1, ""), number(1, 6), number(1, 5)}},
		{[]api.Event{number(1, 6), number(1, 5)}, base(), []api.Event{number(1, 6), number(1, 5)}},
		{[]api.Event{cut(1, fieldL, 2), drops(0, 2)}, changed(func(s *api.State) {
			s.Things[0].Cells[fieldL].Ids = nil
			s.Things = slices.Delete(s.Things, 1, 2)
		}), []api.Event{makes(0, 2), link(1, fieldL, 2)}},
		{[]api.Event{link(1, fieldB, 4), cut(1, fieldB, 4), drops(1, 3)}, changed(func(s *api.State) {
			s.Things[0].Cells[fieldB].Ids = nil
			s.Things = slices.Delete(s.Things, 2, 3)
		}), []api.Event{makes(1, 3), link(1, fieldB, 4), link(1, fieldB, 3)}},
		{[]api.Event{link(2, fieldB, 4), makes(0, 7), link(2, fieldL, 7)}, changed(func(s *api.State) {
			s.Things[1].Cells[fieldB], s.Things[1].Cells[fieldL] = ids(4), ids(7)
			s.Things = slices.Insert(s.Things, 2, thingA(7))
		}), []api.Event{cut(2, fieldL, 7), drops(0, 7), cut(2, fieldB, 4)}},
		// Made, and gone; gone, and made; both ways it is made as at first.
		{[]api.Event{makes(1, 9), drops(1, 9)}, base(), []api.Event{makes(1, 9), drops(1, 9)}},
		{[]api.Event{drops(1, 4), makes(1, 4)}, base(), []api.Event{drops(1, 4), makes(1, 4)}},
		// Changed, and as at first again when it goes.
		{[]api.Event{number(2, 1), number(2, 0), cut(1, fieldL, 2), drops(0, 2), makes(0, 2), link(1, fieldL, 2)}, base(),
			[]api.Event{cut(1, fieldL, 2), drops(0, 2), makes(0, 2), link(1, fieldL, 2), number(2, 1), number(2, 0)}},
		// As many as there may be.
		{slices.Repeat([]api.Event{number(2, 1), number(2, 0)}, api.MaxEvents/2), base(), slices.Repeat([]api.Event{number(2, 1), number(2, 0)}, api.MaxEvents/2)},
	} {
		got, no := Group(base(), c.l)
		if no != api.OK || !same(got, c.want) {
			t.Errorf("%d: Group(%v): %v %d, not %v", i, c.l, got, no, c.want)
		}
		back, no := Back(base(), c.l)
		if no != api.OK || !slices.Equal(back, c.back) {
			t.Errorf("%d: Back(%v): %v %d, not %v", i, c.l, back, no, c.back)
		}
		if was, no := Group(got, back); no != api.OK || !same(was, base()) {
			t.Errorf("%d: behind %v and %v it is %v %d", i, c.l, back, was, no)
		}
	}
}

func TestE1GroupAndBackErrors(t *testing.T) {
	many := make([]api.Event, api.MaxEvents+1)
	fine := slices.Repeat([]api.Event{number(1, 1)}, api.MaxEvents+1)
	wrong := changed(func(s *api.State) { s.Things[3].Id = 0 })
	for i, c := range []struct {
		s    api.State
		l    []api.Event
		want api.Errno
	}{
		// Check of the state, ahead of all others.
		{api.State{}, nil, api.ErrNone},
		{api.State{}, many, api.ErrNone},
		{wrong, nil, api.ErrRange},
		{wrong, many, api.ErrRange},
		{wrong, []api.Event{{}}, api.ErrRange},
		{with(thingA(1), thingA(1)), nil, api.ErrState},
		{with(thingA(1, api.Cell{}, api.Cell{}, ids(1))), nil, api.ErrNone},
		// Too many, ahead of what is wrong with one.
		{base(), many, api.ErrMany},
		{base(), fine, api.ErrMany},
		{base(), many[1:], api.ErrKind},
		// The first error.
		{base(), []api.Event{{}}, api.ErrKind},
		{base(), []api.Event{number(1, 1), makes(0, 1), {}}, api.ErrTwice},
		{base(), []api.Event{number(1, 1), {}, makes(0, 1)}, api.ErrKind},
		{base(), []api.Event{drops(0, 2)}, api.ErrState},
		{base(), []api.Event{drops(0, 2), cut(1, fieldL, 2)}, api.ErrState},
		{base(), []api.Event{cut(1, fieldL, 2), drops(0, 2), link(1, fieldL, 2)}, api.ErrNone},
		{base(), []api.Event{makes(1, 5), number(1, api.MaxInt+1)}, api.ErrRange},
		{base(), []api.Event{text(1, strings.Repeat("w", api.MaxWords+1))}, api.ErrMany},
		{base(), append(slices.Clone(fine[:api.MaxEvents-1]), number(3, 1)), api.ErrNone},
		// Those of Group ahead of those of Undo.
		{base(), []api.Event{number(2, 1), cut(1, fieldL, 2), drops(0, 2), {}}, api.ErrKind},
		{base(), []api.Event{drops(0, 1), drops(0, 1)}, api.ErrNone},
	} {
		checkRefused(t, i, c.s, c.l, c.want)
	}
}

// checkRefused: Group and Back answer an error, and nothing else.
func checkRefused(t *testing.T, i int, s api.State, l []api.Event, want api.Errno) {
	t.Helper()
	if got, no := Group(s, l); no != want || !nothing(got) {
		t.Errorf("%d: Group(%v, %v): %v %d, not %d", i, s, l, got, no, want)
	}
	if back, no := Back(s, l); no != want || len(back) > 0 {
		t.Errorf("%d: Back(%v, %v): %v %d, not %d", i, s, l, back, no, want)
	}
}

// TestE1WhatCantBeUndone: a group is done, though no events make again what it drops.
func TestE1WhatCantBeUndone(t *testing.T) {
	for i, l := range [][]api.Event{
		{drops(0, 1)},
		{number(2, 1), cut(1, fieldL, 2), drops(0, 2)},
		{makes(0, 7), text(7, "x"), drops(0, 7)},
		{drops(0, 1), number(2, 1), makes(0, 1)},
	} {
		if got, no := Group(base(), l); no != api.OK || nothing(got) {
			t.Errorf("%d: Group(%v): %v %d", i, l, got, no)
		}
		if back, no := Back(base(), l); no != api.ErrState || len(back) > 0 {
			t.Errorf("%d: Back(%v): %v %d", i, l, back, no)
		}
	}
}
