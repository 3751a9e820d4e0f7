package state

import (
	"math"
	"reflect"
	"strings"
	"testing"

	"halyard/api"
)

// Fields of type A (0), in order; type B (1) has a number m and a B o.
const (
	fieldN = iota
	fieldT
	fieldB
	fieldL
)

func kinds() []api.Type {
	return []api.Type{
		{Name: "A", Fields: []api.Field{
			{Name: "n", Kind: api.FieldNumber}, {Name: "t", Kind: api.FieldText},
			{Name: "b", Kind: api.FieldOne, Of: "B"}, {Name: "l", Kind: api.FieldMany, Of: "A"},
		}},
		{Name: "B", Fields: []api.Field{{Name: "m", Kind: api.FieldNumber}, {Name: "o", Kind: api.FieldOne, Of: "B"}}},
	}
}

func thingA(id int) api.Thing { return api.Thing{Type: 0, Id: id, Cells: make([]api.Cell, 4)} }
func thingB(id int) api.Thing { return api.Thing{Type: 1, Id: id, Cells: make([]api.Cell, 2)} }

func with(things ...api.Thing) api.State {
	return api.State{Types: kinds(), Things: things}
}

// three things: A 1, A 2 and B 1, changed by do.
func three(do func(s *api.State)) api.State {
	s := with(thingA(1), thingA(2), thingB(1))
	do(&s)
	return s
}

// cell of a state with three things: that one of A 1.
func cell(field int, c api.Cell) api.State {
	return three(func(s *api.State) { s.Things[0].Cells[field] = c })
}

// several things of A, from id 1 on.
func several(n int) []api.Thing {
	var l []api.Thing
	for i := range n {
		l = append(l, thingA(i+1))
	}
	return l
}

// plain: empty lists are as good as none.
func plain(s api.State) api.State {
	out := api.State{Types: append([]api.Type(nil), s.Types...)}
	for i := range out.Types {
		out.Types[i].Fields = append([]api.Field(nil), s.Types[i].Fields...)
	}
	for _, t := range s.Things {
		t.Cells = append([]api.Cell(nil), t.Cells...)
		for i := range t.Cells {
			t.Cells[i].Ids = append([]int(nil), t.Cells[i].Ids...)
		}
		out.Things = append(out.Things, t)
	}
	return out
}

func same(a, b api.State) bool { return reflect.DeepEqual(plain(a), plain(b)) }

func ids(l ...int) api.Cell { return api.Cell{Ids: l} }

func TestD1CheckOfTypesAndThings(t *testing.T) {
	for i, c := range []struct {
		s    api.State
		want api.Errno
	}{
		// Check of its types, ahead of all others.
		{api.State{}, api.ErrNone},
		{api.State{Things: make([]api.Thing, api.MaxThings+1)}, api.ErrNone},
		{api.State{Types: make([]api.Type, api.MaxTypes+1)}, api.ErrMany},
		{api.State{Types: []api.Type{{Name: "id"}, {Name: "9"}}, Things: make([]api.Thing, 1)}, api.ErrNone},
		{api.State{Types: []api.Type{{Name: "Text"}}, Things: []api.Thing{{Type: 1}}}, api.ErrState},
		// How many things.
		{with(), api.OK},
		{with(several(api.MaxThings)...), api.OK},
		{with(several(api.MaxThings + 1)...), api.ErrMany},
		{with(make([]api.Thing, api.MaxThings+1)...), api.ErrMany},
		// A thing's type, id, how many cells.
		{with(thingA(1), thingA(2), thingB(1), thingB(2)), api.OK},
		{with(api.Thing{Type: 2, Id: 1}), api.ErrNone},
		{with(api.Thing{Type: -1, Id: 1}), api.ErrNone},
		{with(api.Thing{Type: math.MaxInt}), api.ErrNone},
		{with(api.Thing{Type: math.MinInt}), api.ErrNone},
		{with(thingA(0)), api.ErrRange},
		{with(thingA(-1)), api.ErrRange},
		{with(thingA(api.MaxId)), api.OK},
		{with(thingA(api.MaxId + 1)), api.ErrRange},
		{with(api.Thing{Type: 0}), api.ErrRange},
		{with(api.Thing{Type: 0, Id: 1}), api.ErrForm},
		{with(api.Thing{Type: 0, Id: 1, Cells: make([]api.Cell, 3)}), api.ErrForm},
		{with(api.Thing{Type: 0, Id: 1, Cells: make([]api.Cell, 5)}), api.ErrForm},
		{with(api.Thing{Type: 1, Id: 1, Cells: make([]api.Cell, 4)}), api.ErrForm},
		// Where it stands, at last.
		{with(thingA(1), thingA(1)), api.ErrState},
		{with(thingA(2), thingA(1)), api.ErrState},
		{with(thingB(1), thingA(1)), api.ErrState},
		{with(thingB(1), thingA(2)), api.ErrState},
		{with(thingA(2), thingB(1)), api.OK},
		{with(thingA(1), thingB(1), thingA(2)), api.ErrState},
		{with(thingA(1), thingA(3), thingA(2)), api.ErrState},
		{three(func(s *api.State) { s.Things[1].Id = 1; s.Things[1].Cells[fieldN].N = api.MaxInt + 1 }), api.ErrRange},
		{three(func(s *api.State) { s.Things[1].Id = 1; s.Things[2].Id = 0 }), api.ErrState},
		{three(func(s *api.State) { s.Things[1].Id = 1; s.Things[0].Cells[fieldL] = ids(9) }), api.ErrState},
		{three(func(s *api.State) { s.Things[1].Id = 0; s.Things[2].Cells = nil }), api.ErrRange},
		{three(func(s *api.State) { s.Things[1].Cells = nil; s.Things[2].Type = 2 }), api.ErrForm},
	} {
		checkCheck(t, i, c.s, c.want)
	}
}

func TestD1CheckOfCells(t *testing.T) {
	words := strings.Repeat("w", api.MaxWords+1)
	for i, c := range []struct {
		s    api.State
		want api.Errno
	}{
		// What its kind names, and nothing else.
		{cell(fieldN, api.Cell{N: 5}), api.OK},
		{cell(fieldN, api.Cell{Text: "x"}), api.ErrForm},
		{cell(fieldN, ids(1)), api.ErrForm},
		{cell(fieldN, ids()), api.OK},
		{cell(fieldN, api.Cell{Ids: []int{}}), api.OK},
		{cell(fieldN, api.Cell{N: api.MaxInt + 1, Text: "x"}), api.ErrForm},
		{cell(fieldT, api.Cell{Text: "x"}), api.OK},
		{cell(fieldT, api.Cell{N: -1}), api.ErrForm},
		{cell(fieldT, ids(1)), api.ErrForm},
		{cell(fieldT, api.Cell{N: 1, Text: words}), api.ErrForm},
		{cell(fieldB, ids(1)), api.OK},
		{cell(fieldB, api.Cell{N: 1}), api.ErrForm},
		{cell(fieldB, api.Cell{Text: "x"}), api.ErrForm},
		{cell(fieldB, api.Cell{N: 1, Ids: []int{1, 2}}), api.ErrForm},
		{cell(fieldL, ids(1, 2)), api.OK},
		{cell(fieldL, api.Cell{N: 1}), api.ErrForm},
		{cell(fieldL, api.Cell{Text: "x", Ids: []int{2, 1}}), api.ErrForm},
		// Limits.
		{cell(fieldN, api.Cell{N: api.MaxInt}), api.OK},
		{cell(fieldN, api.Cell{N: api.MaxInt + 1}), api.ErrRange},
		{cell(fieldN, api.Cell{N: -api.MaxInt}), api.OK},
		{cell(fieldN, api.Cell{N: -api.MaxInt - 1}), api.ErrRange},
		{cell(fieldN, api.Cell{N: math.MinInt}), api.ErrRange},
		{cell(fieldT, api.Cell{Text: words[1:]}), api.OK},
		{cell(fieldT, api.Cell{Text: words}), api.ErrMany},
		{cell(fieldT, api.Cell{Text: "\x00\n\"\\\xff"}), api.OK},
		{cell(fieldB, ids(1, 1)), api.ErrMany},
		{cell(fieldB, ids(2, 1)), api.ErrMany},
		{with(thingOf(6), thingA(2), thingA(3), thingA(4), thingA(5), thingA(6)), api.OK},
		{with(thingOf(7), thingA(2), thingA(3), thingA(4), thingA(5), thingA(6), thingA(7)), api.ErrMany},
		{cell(fieldL, api.Cell{Ids: make([]int, api.MaxIds+1)}), api.ErrMany},
		// Rising.
		{cell(fieldL, ids(2, 1)), api.ErrState},
		{cell(fieldL, ids(1, 1)), api.ErrState},
		{cell(fieldL, ids(1, 2, 2)), api.ErrState},
		{cell(fieldL, ids(9, 8)), api.ErrState},
		{cell(fieldL, api.Cell{Ids: make([]int, api.MaxIds)}), api.ErrState},
		// Cell by cell, and each thing's ahead of the next thing.
		{three(func(s *api.State) { s.Things[0].Cells[fieldL] = ids(2, 1); s.Things[0].Cells[fieldT].N = 1 }), api.ErrForm},
		{three(func(s *api.State) { s.Things[0].Cells[fieldT].Text = words; s.Things[0].Cells[fieldB].N = 1 }), api.ErrMany},
		{three(func(s *api.State) { s.Things[0].Cells[fieldL] = ids(2, 1); s.Things[1].Type = 9 }), api.ErrState},
		{three(func(s *api.State) { s.Things[1].Cells[fieldL] = ids(2, 1); s.Things[0].Id = 0 }), api.ErrRange},
		// What ids mean, behind all of them.
		{cell(fieldB, ids(2)), api.ErrNone},
		{cell(fieldB, ids(0)), api.ErrNone},
		{cell(fieldL, ids(1, 2, 3)), api.ErrNone},
		{cell(fieldL, ids(-1, 1)), api.ErrNone},
		{cell(fieldL, ids(math.MinInt, math.MaxInt)), api.ErrNone},
		{three(func(s *api.State) { s.Things[2].Cells[1] = ids(1) }), api.OK},
		{three(func(s *api.State) { s.Things[2].Cells[1] = ids(2) }), api.ErrNone},
		{three(func(s *api.State) { s.Things[0].Cells[fieldB] = ids(2); s.Things[2].Cells[0].Text = "x" }), api.ErrForm},
		{three(func(s *api.State) { s.Things[0].Cells[fieldB] = ids(2); s.Things[2].Id = 0 }), api.ErrRange},
	} {
		checkCheck(t, i, c.s, c.want)
	}
}

// thingOf: A 1, which has the first n things.
func thingOf(n int) api.Thing {
	t := thingA(1)
	for i := range n {
		t.Cells[fieldL].Ids = append(t.Cells[fieldL].Ids, i+1)
	}
	return t
}

// checkCheck that Check, and Do and Undo of what is no event, tell what is wrong with a state.
func checkCheck(t *testing.T, i int, s api.State, want api.Errno) {
	t.Helper()
	if no := Check(s); no != want {
		t.Errorf("%d: Check(%v): %d, not %d", i, s, no, want)
	}
	if want == api.OK {
		want = api.ErrKind
	}
	if out, no := Do(s, api.Event{}); no != want || !reflect.DeepEqual(out, api.State{}) {
		t.Errorf("%d: Do(%v): %v %d, not %d", i, s, out, no, want)
	}
	if e, no := Undo(s, api.Event{}); no != want || e != (api.Event{}) {
		t.Errorf("%d: Undo(%v): %v %d, not %d", i, s, e, no, want)
	}
}

// roomy: a state whose lists have spare room, with something in it: the lists up to the end of that.
func roomy() (s api.State, ids []int) {
	ids = []int{1, 2, 77, 78}
	s = with(thingA(1), thingA(2), thingA(3), thingA(5), thingB(1), thingB(7))
	s.Types = append(s.Types, api.Type{Name: "spare"})
	s.Things[0].Cells[fieldL].Ids = ids[:2]
	return s, ids
}

// TestP2WhatIsHandedInIsOnlyRead, the spare room too.
func TestP2WhatIsHandedInIsOnlyRead(t *testing.T) {
	room, list := roomy()
	want, wantList := roomy()
	s := api.State{Types: room.Types[:2], Things: room.Things[:5]}
	for _, e := range []api.Event{
		{Kind: api.EventMake, Type: 0, Id: 4}, {Kind: api.EventDrop, Type: 0, Id: 3}, {Kind: api.EventNumber, Id: 1, N: 7},
		{Kind: api.EventText, Id: 1, Field: fieldT, Text: "x"}, {Kind: api.EventLink, Id: 1, Field: fieldL, N: 3},
		{Kind: api.EventLink, Id: 1, Field: fieldB, N: 1}, {Kind: api.EventCut, Id: 1, Field: fieldL, N: 1},
	} {
		if _, no := Do(s, e); no != api.OK {
			t.Fatalf("Do(%v): %d", e, no)
		}
		if _, no := Undo(s, e); no != api.OK {
			t.Fatalf("Undo(%v): %d", e, no)
		}
		if !reflect.DeepEqual(room, want) || !reflect.DeepEqual(list, wantList) {
			t.Fatalf("behind %v it is %v, ids %v, and was %v, ids %v", e, room, list, want, wantList)
		}
	}
}

// TestP2P3AnswersAreNew: what is done to an answer changes neither what was handed in, nor another part of it, nor a later answer.
func TestP2P3AnswersAreNew(t *testing.T) {
	shared := []int{1, 2}
	handed := with(thingA(1), thingA(2))
	handed.Things[0].Cells[fieldL].Ids, handed.Things[1].Cells[fieldL].Ids = shared, shared
	handed.Types[1].Fields = handed.Types[0].Fields[:1]
	was := plain(handed)
	e := api.Event{Kind: api.EventNumber, Id: 1, N: 7}
	first, no := Do(handed, e)
	if no != api.OK {
		t.Fatalf("Do: %d", no)
	}
	want := plain(first)
	list := first.Things[0].Cells[fieldL].Ids
	clear(list[:cap(list)])
	cells := first.Things[0].Cells
	clear(cells[:cap(cells)])
	fields := first.Types[0].Fields
	clear(fields[:cap(fields)])
	if !reflect.DeepEqual(plain(first).Things[1], want.Things[1]) || !reflect.DeepEqual(first.Types[1], want.Types[1]) {
		t.Errorf("lists of one answer share memory: %v", first)
	}
	clear(first.Things[:cap(first.Things)])
	clear(first.Types[:cap(first.Types)])
	if !same(handed, was) {
		t.Errorf("what was handed in is %v, and was %v", handed, was)
	}
	if again, _ := Do(handed, e); !same(again, want) {
		t.Errorf("it is %v, and was %v", again, want)
	}
}
