package state

import (
	"math"
	"strings"
	"testing"

	"halyard/api"
)

func makes(of, id int) api.Event { return api.Event{Kind: api.EventMake, Type: of, Id: id} }
func drops(of, id int) api.Event { return api.Event{Kind: api.EventDrop, Type: of, Id: id} }
func number(f, n int) api.Event  { return api.Event{Kind: api.EventNumber, Id: 1, Field: f, N: n} }
func link(f, n int) api.Event    { return api.Event{Kind: api.EventLink, Id: 1, Field: f, N: n} }
func cut(f, n int) api.Event     { return api.Event{Kind: api.EventCut, Id: 1, Field: f, N: n} }
func text(f int, s string) api.Event {
	return api.Event{Kind: api.EventText, Id: 1, Field: f, Text: s}
}

// busy: A 1 (n 5, t "w", b 1, l 1 3), A 3, A 4, B 1, B 2 (o 2).
func busy() api.State {
	s := with(thingA(1), thingA(3), thingA(4), thingB(1), thingB(2))
	s.Things[0].Cells = []api.Cell{{N: 5}, {Text: "w"}, ids(1), ids(1, 3)}
	s.Things[4].Cells[1] = ids(2)
	return s
}

// changed: busy, and do.
func changed(do func(s *api.State)) api.State {
	s := busy()
	do(&s)
	return s
}

// cellOf: busy, with another cell of A 1.
func cellOf(field int, c api.Cell) api.State {
	return changed(func(s *api.State) { s.Things[0].Cells[field] = c })
}

func TestD2D3WhatIsDoneAndUndone(t *testing.T) {
	full := strings.Repeat("w", api.MaxWords)
	for _, c := range []struct {
		e    api.Event
		want api.State
		back api.Event
	}{
		{makes(0, 2), changed(func(s *api.State) {
			s.Things = append([]api.Thing{s.Things[0], thingA(2)}, s.Things[1:]...)
		}), drops(0, 2)},
		{makes(1, api.MaxId), changed(func(s *api.State) { s.Things = append(s.Things, thingB(api.MaxId)) }), drops(1, api.MaxId)},
		{makes(0, 5), changed(func(s *api.State) {
			s.Things = append([]api.Thing{s.Things[0], s.Things[1], s.Things[2], thingA(5)}, s.Things[3:]...)
		}), drops(0, 5)},
		{drops(0, 4), changed(func(s *api.State) { s.Things = append(s.Things[:2:2], s.Things[3:]...) }), makes(0, 4)},
		{number(fieldN, 7), cellOf(fieldN, api.Cell{N: 7}), number(fieldN, 5)},
		{number(fieldN, 5), busy(), number(fieldN, 5)},
		{number(fieldN, 0), cellOf(fieldN, api.Cell{}), number(fieldN, 5)},
		{number(fieldN, api.MaxInt), cellOf(fieldN, api.Cell{N: api.MaxInt}), number(fieldN, 5)},
		{number(fieldN, -api.MaxInt), cellOf(fieldN, api.Cell{N: -api.MaxInt}), number(fieldN, 5)},
		{text(fieldT, ""), cellOf(fieldT, api.Cell{}), text(fieldT, "w")},
		{text(fieldT, full), cellOf(fieldT, api.Cell{Text: full}), text(fieldT, "w")},
		{text(fieldT, "\x00\"\n"), cellOf(fieldT, api.Cell{Text: "\x00\"\n"}), text(fieldT, "w")},
		{link(fieldB, 2), cellOf(fieldB, ids(2)), link(fieldB, 1)},
		{link(fieldL, 4), cellOf(fieldL, ids(1, 3, 4)), cut(fieldL, 4)},
		{cut(fieldB, 1), cellOf(fieldB, ids()), link(fieldB, 1)},
		{cut(fieldL, 1), cellOf(fieldL, ids(3)), link(fieldL, 1)},
		{cut(fieldL, 3), cellOf(fieldL, ids(1)), link(fieldL, 3)},
		{api.Event{Kind: api.EventLink, Type: 1, Id: 1, Field: 1, N: 1}, changed(func(s *api.State) { s.Things[3].Cells[1] = ids(1) }),
			api.Event{Kind: api.EventCut, Type: 1, Id: 1, Field: 1, N: 1}},
		{api.Event{Kind: api.EventLink, Id: 3, Field: fieldL, N: 3}, changed(func(s *api.State) { s.Things[1].Cells[fieldL] = ids(3) }),
			api.Event{Kind: api.EventCut, Id: 3, Field: fieldL, N: 3}},
	} {
		checkDone(t, busy(), c.e, c.want, c.back)
	}
}

// checkDone: what an event makes of a state, and what undoes it.
func checkDone(t *testing.T, s api.State, e api.Event, want api.State, back api.Event) {
	t.Helper()
	got, no := Do(s, e)
	if no != api.OK || !same(got, want) {
		t.Errorf("Do(%v): %v %d, not %v", e, got, no, want)
	}
	if no := Check(got); no != api.OK {
		t.Errorf("Do(%v): Check: %d", e, no)
	}
	undo, no := Undo(s, e)
	if no != api.OK || undo != back {
		t.Errorf("Undo(%v): %v %d, not %v", e, undo, no, back)
	}
	if again, no := Do(got, undo); no != api.OK || !same(again, s) {
		t.Errorf("behind %v and %v it is %v %d, not %v", e, undo, again, no, s)
	}
}

func TestD2TheFirstAndTheLastThing(t *testing.T) {
	checkDone(t, with(), makes(1, 1), with(thingB(1)), drops(1, 1))
	checkDone(t, with(thingB(1)), drops(1, 1), with(), makes(1, 1))
	checkDone(t, with(thingA(2)), makes(0, 1), with(thingA(1), thingA(2)), drops(0, 1))
	checkDone(t, with(several(api.MaxThings-1)...), makes(0, api.MaxThings), with(several(api.MaxThings)...), drops(0, api.MaxThings))
	checkDone(t, with(several(api.MaxThings)...), drops(0, api.MaxThings), with(several(api.MaxThings-1)...), makes(0, api.MaxThings))
}

func TestD2AsManyIdsAsThereMayBe(t *testing.T) {
	things := func(ids int) []api.Thing { return append([]api.Thing{thingOf(ids)}, several(7)[1:]...) }
	checkDone(t, with(things(5)...), link(fieldL, 6), with(things(6)...), cut(fieldL, 6))
	checkDone(t, with(things(6)...), cut(fieldL, 6), with(things(5)...), link(fieldL, 6))
	checkRefused(t, with(things(6)...), link(fieldL, 7), api.ErrMany)
	checkRefused(t, with(things(6)...), link(fieldL, 6), api.ErrTwice)
	checkRefused(t, with(things(6)...), link(fieldL, 8), api.ErrNone)
}

// checkRefused: Do and Undo answer an error, and nothing else.
func checkRefused(t *testing.T, s api.State, e api.Event, want api.Errno) {
	t.Helper()
	if out, no := Do(s, e); no != want || len(out.Types) > 0 || len(out.Things) > 0 {
		t.Errorf("Do(%v): %v %d, not %d", e, out, no, want)
	}
	if back, no := Undo(s, e); no != want || back != (api.Event{}) {
		t.Errorf("Undo(%v): %v %d, not %d", e, back, no, want)
	}
}

func TestD2WhatAnEventMustBe(t *testing.T) {
	ev := func(kind, of, id, field, n int, text string) api.Event {
		return api.Event{Kind: kind, Type: of, Id: id, Field: field, N: n, Text: text}
	}
	for _, c := range []struct {
		e    api.Event
		want api.Errno
	}{
		// The kind ahead of all others.
		{api.Event{}, api.ErrKind}, {ev(-1, 9, 0, 9, 9, "x"), api.ErrKind}, {ev(7, 0, 1, 0, 0, ""), api.ErrKind},
		{ev(math.MaxInt, 0, 1, 0, 0, ""), api.ErrKind},
		// What its kind does not name, ahead of its type.
		{ev(api.EventMake, 9, 5, 1, 0, ""), api.ErrForm}, {ev(api.EventMake, 0, 5, 0, -1, ""), api.ErrForm}, {ev(api.EventMake, 0, 5, 0, 0, "x"), api.ErrForm},
		{ev(api.EventDrop, 9, 4, 1, 0, ""), api.ErrForm}, {ev(api.EventDrop, 0, 4, 0, 1, ""), api.ErrForm}, {ev(api.EventDrop, 0, 4, 0, 0, "x"), api.ErrForm},
		{ev(api.EventNumber, 0, 1, 0, 1, "x"), api.ErrForm}, {ev(api.EventText, 0, 1, 1, 1, "x"), api.ErrForm},
		{ev(api.EventLink, 0, 1, 3, 4, "x"), api.ErrForm}, {ev(api.EventCut, 0, 1, 3, 3, "x"), api.ErrForm},
		// The type, then the id, whatever there is.
		{ev(api.EventMake, 2, 0, 0, 0, ""), api.ErrNone}, {ev(api.EventMake, -1, 1, 0, 0, ""), api.ErrNone},
		{ev(api.EventNumber, math.MaxInt, 1, 0, 0, ""), api.ErrNone}, {ev(api.EventCut, math.MinInt, 0, 0, 0, ""), api.ErrNone},
		{makes(0, 0), api.ErrRange}, {makes(0, -1), api.ErrRange}, {makes(0, api.MaxId+1), api.ErrRange},
		{drops(0, 0), api.ErrRange}, {drops(1, api.MaxId+1), api.ErrRange}, {ev(api.EventText, 0, 0, 9, 0, "x"), api.ErrRange},
	} {
		checkRefused(t, busy(), c.e, c.want)
	}
}

func TestD2WhatCantBeDone(t *testing.T) {
	words := strings.Repeat("w", api.MaxWords+1)
	for _, c := range []struct {
		e    api.Event
		want api.Errno
	}{
		{makes(0, 1), api.ErrTwice}, {makes(1, 2), api.ErrTwice},
		// No such thing, ahead of its field.
		{drops(0, 2), api.ErrNone}, {drops(1, 3), api.ErrNone}, {drops(0, api.MaxId), api.ErrNone},
		{api.Event{Kind: api.EventNumber, Id: 2, N: api.MaxInt + 1}, api.ErrNone},
		{api.Event{Kind: api.EventText, Type: 1, Id: 4, Field: 9}, api.ErrNone},
		{api.Event{Kind: api.EventLink, Id: 2, Field: fieldN, N: 1}, api.ErrNone},
		{api.Event{Kind: api.EventCut, Id: 2, Field: fieldN, N: 1}, api.ErrNone},
		// An id means it.
		{drops(0, 1), api.ErrState}, {drops(0, 3), api.ErrState}, {drops(1, 1), api.ErrState}, {drops(1, 2), api.ErrState},
		// No such field; of another kind, ahead of what it would be.
		{number(4, 1), api.ErrNone}, {number(-1, 1), api.ErrNone}, {text(4, words), api.ErrNone}, {link(4, 9), api.ErrNone}, {cut(-1, 9), api.ErrNone},
		{api.Event{Kind: api.EventLink, Type: 1, Id: 1, Field: 2, N: 1}, api.ErrNone},
		{number(math.MaxInt, 1), api.ErrNone}, {number(math.MinInt, 1), api.ErrNone},
		{number(fieldT, api.MaxInt+1), api.ErrKind}, {number(fieldB, 1), api.ErrKind}, {number(fieldL, 1), api.ErrKind},
		{text(fieldN, words), api.ErrKind}, {text(fieldB, ""), api.ErrKind}, {text(fieldL, ""), api.ErrKind},
		{link(fieldN, 9), api.ErrKind}, {link(fieldT, 1), api.ErrKind}, {cut(fieldN, 9), api.ErrKind}, {cut(fieldT, 1), api.ErrKind},
		// What it would be.
		{number(fieldN, api.MaxInt+1), api.ErrRange}, {number(fieldN, -api.MaxInt-1), api.ErrRange}, {number(fieldN, math.MinInt), api.ErrRange},
		{text(fieldT, words), api.ErrMany},
		{link(fieldB, 3), api.ErrNone}, {link(fieldB, 0), api.ErrNone}, {link(fieldB, -1), api.ErrNone}, {link(fieldB, 1), api.ErrTwice},
		{link(fieldL, 2), api.ErrNone}, {link(fieldL, math.MaxInt), api.ErrNone}, {link(fieldL, 1), api.ErrTwice}, {link(fieldL, 3), api.ErrTwice},
		{cut(fieldB, 2), api.ErrNone}, {cut(fieldL, 2), api.ErrNone}, {cut(fieldL, 4), api.ErrNone}, {cut(fieldL, math.MinInt), api.ErrNone},
		{api.Event{Kind: api.EventCut, Id: 3, Field: fieldB, N: 1}, api.ErrNone},
	} {
		checkRefused(t, busy(), c.e, c.want)
	}
	// As many things as there may be.
	checkRefused(t, with(several(api.MaxThings)...), makes(0, api.MaxThings+1), api.ErrMany)
	checkRefused(t, with(several(api.MaxThings)...), makes(0, api.MaxThings), api.ErrTwice)
}

// TestD2AnIdMeansAThingOfItsFieldsType alone: one of another type with that id may be dropped.
func TestD2AnIdMeansAThingOfItsFieldsType(t *testing.T) {
	s := with(thingA(1), thingA(2), thingB(2))
	s.Things[0].Cells[fieldL] = ids(2)
	if out, no := Do(s, drops(1, 2)); no != api.OK || len(out.Things) != 2 {
		t.Errorf("B 2: %v %d", out, no)
	}
	if _, no := Do(s, drops(0, 2)); no != api.ErrState {
		t.Errorf("A 2: %d", no)
	}
	if out, no := Do(s, drops(0, 1)); no != api.OK || len(out.Things) != 2 {
		t.Errorf("A 1: %v %d", out, no)
	}
}

// TestD3WhatWasNotAsAtFirst can be dropped, but no event makes it again.
func TestD3WhatWasNotAsAtFirst(t *testing.T) {
	for i, c := range []api.Cell{{N: 1}, {Text: "x"}, ids(1), ids(2)} {
		s := with(thingA(1), thingA(2), thingB(1))
		s.Things[0].Cells[i] = c
		if out, no := Do(s, drops(0, 1)); no != api.OK || !same(out, with(thingA(2), thingB(1))) {
			t.Errorf("Do, cell %d: %v %d", i, out, no)
		}
		if e, no := Undo(s, drops(0, 1)); no != api.ErrState || e != (api.Event{}) {
			t.Errorf("Undo, cell %d: %v %d", i, e, no)
		}
		if e, no := Undo(s, drops(0, 1+i/3)); no != api.ErrState || e != (api.Event{}) {
			t.Errorf("Undo of what is meant, cell %d: %v %d", i, e, no)
		}
	}
	// Those of Do first.
	s := with(thingA(1), thingA(0))
	s.Things[0].Cells[fieldN].N = 1
	checkRefused(t, s, drops(0, 1), api.ErrRange)
}
