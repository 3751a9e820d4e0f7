package history

import (
	"math/rand"
	"reflect"
	"slices"
	"testing"

	"halyard/api"
	"halyard/state"
)

func randomEvent(r *rand.Rand) api.Event {
	e := api.Event{Kind: 1 + r.Intn(6), Type: r.Intn(3) / 2, Id: 1 + r.Intn(4)}
	if e.Kind < api.EventNumber {
		return e
	}
	e.Field = r.Intn(4)
	if e.Kind == api.EventText {
		e.Text = []string{"", "x", "yy"}[r.Intn(3)]
	} else {
		e.N = r.Intn(5)
	}
	return e
}

// randomStory: events that can be done, and the state behind them.
func randomStory(r *rand.Rand, n int) ([]api.Event, api.State) {
	s := with()
	var l []api.Event
	for len(l) < n {
		e := randomEvent(r)
		if next, no := state.Do(s, e); no == api.OK {
			l, s = append(l, e), next
		}
	}
	return l, s
}

// TestE2WhatWasAtATimeIsForGood, whatever comes, be it done or not.
func TestE2WhatWasAtATimeIsForGood(t *testing.T) {
	r := rand.New(rand.NewSource(10))
	for range 60 {
		l, last := randomStory(r, 60)
		checkAll(t, kinds(), l, last, api.OK)
		more := slices.Clone(l)
		for range 20 {
			more = append(more, randomEvent(r))
		}
		more = append(more, api.Event{})
		for n := range l {
			was, no := All(kinds(), l[:n])
			if no != api.OK {
				t.Fatalf("All(%v): %d", l[:n], no)
			}
			checkAt(t, kinds(), l, n, was, api.OK)
			checkAt(t, kinds(), more, n, was, api.OK)
			next, no := Group(was, l[n:n+1])
			if no != api.OK {
				t.Fatalf("Group(%v, %v): %d", was, l[n], no)
			}
			checkAt(t, kinds(), l, n+1, next, api.OK)
		}
	}
}

// TestE1GroupsOneByOne: a group is its events done one by one, or none of them; and Back leads back.
func TestE1GroupsOneByOne(t *testing.T) {
	r := rand.New(rand.NewSource(11))
	met := map[api.Errno]int{}
	back, gone := 0, 0
	for range 1500 {
		_, s := randomStory(r, 25)
		var l []api.Event
		for range r.Intn(api.MaxEvents + 1) {
			l = append(l, randomEvent(r))
		}
		want, wantNo := oneByOne(s, l)
		met[wantNo]++
		got, no := Group(s, l)
		if no != wantNo || !same(got, want) {
			t.Fatalf("Group(%v, %v): %v %d, not %v %d", s, l, got, no, want, wantNo)
		}
		undo, no := Back(s, l)
		switch {
		case wantNo != api.OK:
			if no != wantNo || len(undo) > 0 {
				t.Fatalf("Back(%v, %v): %v %d, but Group: %d", s, l, undo, no, wantNo)
			}
		case no == api.OK:
			back++
			if was, no := Group(got, undo); no != api.OK || !same(was, s) || len(undo) != len(l) {
				t.Fatalf("behind %v and %v it is %v %d, and was %v", l, undo, was, no, s)
			}
		default:
			gone++
			drop := func(e api.Event) bool { return e.Kind == api.EventDrop }
			if no != api.ErrState || len(undo) > 0 || !slices.ContainsFunc(l, drop) {
				t.Fatalf("Back(%v, %v): %v %d", s, l, undo, no)
			}
		}
	}
	if back < 100 || gone == 0 || met[api.ErrNone] == 0 || met[api.ErrTwice] == 0 || met[api.ErrState] == 0 || met[api.ErrKind] == 0 {
		t.Errorf("led back %d, gone %d, met %v", back, gone, met)
	}
}

func oneByOne(s api.State, l []api.Event) (api.State, api.Errno) {
	for _, e := range l {
		next, no := state.Do(s, e)
		if no != api.OK {
			return api.State{}, no
		}
		s = next
	}
	return s, api.OK
}

// TestP1WhateverItIsHanded: states, events and times with something wrong anywhere.
func TestP1WhateverItIsHanded(t *testing.T) {
	r := rand.New(rand.NewSource(12))
	odd := []int{-1 << 63, -1, 0, 1, 2, 3, 9, 1000, 1<<63 - 1}
	pick := func() int { return odd[r.Intn(len(odd))] }
	for range 10000 {
		s := base()
		switch r.Intn(4) {
		case 0:
			s.Types = s.Types[:r.Intn(3)]
		case 1:
			s.Things[r.Intn(4)] = api.Thing{Type: pick(), Id: pick(), Cells: make([]api.Cell, r.Intn(6))}
		}
		l := make([]api.Event, r.Intn(api.MaxEvents+2))
		for i := range l {
			l[i] = api.Event{Kind: r.Intn(8), Type: pick(), Id: pick(), Field: pick(), N: pick()}
		}
		at, no := At(s.Types, l, pick())
		checkBesideNo(t, at, no)
		all, no := All(s.Types, l)
		checkBesideNo(t, all, no)
		group, no := Group(s, l)
		checkBesideNo(t, group, no)
		if back, undoNo := Back(s, l); no != api.OK && undoNo != no || undoNo != api.OK && len(back) > 0 {
			t.Fatalf("Back(%v, %v): %v %d, but Group: %d", s, l, back, undoNo, no)
		}
	}
}

// checkBesideNo: a state that is right beside OK, and nothing beside an error.
func checkBesideNo(t *testing.T, s api.State, no api.Errno) {
	t.Helper()
	if no == api.OK && state.Check(s) != api.OK || no != api.OK && !nothing(s) {
		t.Fatalf("%v %d", s, no)
	}
}

// TestP2WhatIsHandedInIsOnlyRead, the spare room too.
func TestP2WhatIsHandedInIsOnlyRead(t *testing.T) {
	fresh := func() (api.State, []int, []api.Event) {
		s, list := base(), []int{2, 77, 78}
		s.Things[0].Cells[fieldL].Ids = list[:1]
		s.Types = append(s.Types, api.Type{Name: "spare"})
		s.Things = append(s.Things, thingB(9))
		return s, list, []api.Event{makes(0, 3), makes(0, 5), link(1, fieldL, 2), cut(1, fieldL, 2), drops(0, 3), {Kind: 77}}
	}
	room, list, events := fresh()
	want, wantList, wantEvents := fresh()
	s := api.State{Types: room.Types[:2], Things: room.Things[:4]}
	group := append([]api.Event{}, events[0], cut(1, fieldL, 2), events[2], number(2, 1), events[4])
	for i, no := range []api.Errno{
		second(All(s.Types, append(events[:0:0], makes(0, 1), makes(0, 2)))), second(At(s.Types, events[:5], 2)), second(At(s.Types, events[:5], 0)),
		second(Group(s, group)), second(Group(s, events[:0])), second(Back(s, group)), second(Back(s, events[:2])), second(Group(s, events[:2])),
	} {
		if no != api.OK {
			t.Errorf("call %d: %d", i, no)
		}
	}
	if !reflect.DeepEqual(room, want) || !slices.Equal(list, wantList) || !slices.Equal(events, wantEvents) {
		t.Errorf("it is %v, ids %v, events %v, and was %v, ids %v, events %v", room, list, events, want, wantList, wantEvents)
	}
}

func second[T any](_ T, no api.Errno) api.Errno { return no }

// spoil every list of a state, up to the end of its room.
func spoil(s api.State) {
	for _, t := range s.Things {
		for _, c := range t.Cells {
			clear(c.Ids[:cap(c.Ids)])
		}
		clear(t.Cells[:cap(t.Cells)])
	}
	for _, t := range s.Types {
		clear(t.Fields[:cap(t.Fields)])
	}
	clear(s.Things[:cap(s.Things)])
	clear(s.Types[:cap(s.Types)])
}

// TestP2P3AnswersAreNew: what is done to an answer changes neither what was handed in, nor a later answer; without events too.
func TestP2P3AnswersAreNew(t *testing.T) {
	events := []api.Event{makes(0, 6), number(6, 2)}
	s, types := base(), kinds()
	for i, call := range []func() (api.State, api.Errno){
		func() (api.State, api.Errno) { return All(types, nil) },
		func() (api.State, api.Errno) { return All(types, events) },
		func() (api.State, api.Errno) { return At(types, events, 0) },
		func() (api.State, api.Errno) { return At(types, events, 1) },
		func() (api.State, api.Errno) { return Group(s, nil) },
		func() (api.State, api.Errno) { return Group(s, events) },
	} {
		first, no := call()
		if no != api.OK {
			t.Fatalf("%d: %d", i, no)
		}
		want := plain(first)
		spoil(first)
		if again, _ := call(); !same(again, want) {
			t.Errorf("%d: it is %v, and was %v", i, again, want)
		}
		if !same(s, base()) || !reflect.DeepEqual(types, kinds()) {
			t.Fatalf("%d: what was handed in is %v and %v", i, s, types)
		}
	}
	back, _ := Back(s, events)
	clear(back[:cap(back)])
	if again, _ := Back(s, events); !slices.Equal(again, []api.Event{number(6, 0), drops(0, 6)}) {
		t.Errorf("Back: %v", again)
	}
}

// TestP2NoTwoListsOfAnAnswerShareMemory, though those that were handed in did.
func TestP2NoTwoListsOfAnAnswerShareMemory(t *testing.T) {
	for i, l := range [][]api.Event{nil, {number(1, 7)}} {
		s, shared := base(), []int{1, 2}
		s.Things[0].Cells[fieldL].Ids, s.Things[1].Cells[fieldL].Ids = shared, shared
		s.Types[1].Fields = s.Types[0].Fields[:1]
		got, no := Group(s, l)
		if no != api.OK {
			t.Fatalf("%d: %d", i, no)
		}
		want := plain(got)
		list, cells, fields := got.Things[0].Cells[fieldL].Ids, got.Things[0].Cells, got.Types[0].Fields
		clear(list[:cap(list)])
		clear(cells[:cap(cells)])
		clear(fields[:cap(fields)])
		if !reflect.DeepEqual(plain(got).Things[1:], want.Things[1:]) || !reflect.DeepEqual(got.Types[1], want.Types[1]) {
			t.Errorf("%d: it is %v, and was %v", i, got, want)
		}
	}
}
