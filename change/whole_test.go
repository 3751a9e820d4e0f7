package change

import (
	"fmt"
	"math/rand"
	"reflect"
	"slices"
	"strings"
	"testing"

	"halyard/api"
	"halyard/query"
	"halyard/state"
)

// refArgs: of the name of a select and the names of its args, sorted: the kind of event.
var refArgs = map[string]int{
	"make id type": api.EventMake, "drop id type": api.EventDrop,
	"set field id number type": api.EventNumber, "set field id text type": api.EventText,
	"link field id to type": api.EventLink, "cut field id to type": api.EventCut,
}

// refPlaces: of a type, or a type and a field, its number.
var refPlaces = map[string]int{"A": 0, "B": 1, "A/n": 0, "A/t": 1, "A/b": 2, "A/l": 3, "B/m": 0}

// ref: the event of a select another way: from the names of its args as one text, and its args as maps.
func ref(s api.Select) (api.Event, api.Errno) {
	if len(s.Kids) > 0 {
		return api.Event{}, api.ErrState
	}
	if !strings.Contains(" make drop set link cut ", " "+s.Name+" ") {
		return api.Event{}, api.ErrNone
	}
	var names []string
	texts, numbers := map[string]string{}, map[string]int{}
	for _, a := range s.Args {
		names = append(names, a.Name)
		if a.IsText {
			texts[a.Name] = a.Text
		} else {
			numbers[a.Name] = a.N
		}
	}
	slices.Sort(names)
	kind, there := refArgs[s.Name+" "+strings.Join(names, " ")]
	if !there {
		return api.Event{}, api.ErrForm
	}
	for _, name := range names {
		_, isText := texts[name]
		if isText != strings.Contains(" type field text ", " "+name+" ") {
			return api.Event{}, api.ErrKind
		}
	}
	of, there := refPlaces[texts["type"]]
	if !there || strings.Contains(texts["type"], "/") {
		return api.Event{}, api.ErrNone
	}
	e := api.Event{Kind: kind, Type: of, Id: numbers["id"], N: numbers["number"] + numbers["to"], Text: texts["text"]}
	if slices.Contains(names, "field") {
		e.Field, there = refPlaces[texts["type"]+"/"+texts["field"]]
		if !there {
			return api.Event{}, api.ErrNone
		}
	}
	return e, api.OK
}

// refAll: the events of a change, and the state behind them, done one by one.
func refAll(s api.State, l []api.Select) ([]api.Event, api.State, api.Errno, api.Errno) {
	if no := query.Check(l); no != api.OK {
		return nil, api.State{}, no, no
	}
	var events []api.Event
	for _, asked := range l {
		e, no := ref(asked)
		if no != api.OK {
			return nil, api.State{}, no, no
		}
		events = append(events, e)
	}
	if len(events) > api.MaxEvents {
		return nil, api.State{}, api.ErrMany, api.ErrMany
	}
	for _, e := range events {
		next, no := state.Do(s, e)
		if no != api.OK {
			return events, api.State{}, api.OK, no
		}
		s = next
	}
	return events, s, api.OK, api.OK
}

func pick(r *rand.Rand, l ...string) string { return l[r.Intn(len(l))] }

// randomArg of a name, mostly one that suits it.
func randomArg(r *rand.Rand, name string) api.Arg {
	if strings.Contains(" type field text ", " "+name+" ") != (r.Intn(80) == 0) {
		return api.Arg{Name: name, IsText: true, Text: pick(r, "A", "A", "B", "n", "t", "b", "l", "l", "m", "")}
	}
	return api.Arg{Name: name, N: r.Intn(6)}
}

// randomSelect: mostly one of a change.
func randomSelect(r *rand.Rand) api.Select {
	form := strings.Fields(pick(r, "make type id", "make type id", "drop type id", "set type id field number", "set type id field text", "link type id field to", "link type id field to", "cut type id field to"))
	s := api.Select{Name: form[0], Alias: fmt.Sprint("x", r.Intn(1000))}
	for _, name := range form[1:] {
		s.Args = append(s.Args, randomArg(r, name))
		if name == "type" && r.Intn(5) > 0 {
			s.Args[len(s.Args)-1] = api.Arg{Name: name, IsText: true, Text: pick(r, "A", "A", "B")}
		}
		if name == "field" && r.Intn(4) > 0 {
			s.Args[len(s.Args)-1] = api.Arg{Name: name, IsText: true, Text: map[string]string{"number": "n", "text": "t", "to": pick(r, "b", "l")}[form[4]]}
		}
	}
	r.Shuffle(len(s.Args), func(i, j int) { s.Args[i], s.Args[j] = s.Args[j], s.Args[i] })
	switch r.Intn(60) {
	case 0:
		s.Name = pick(r, "make", "drop", "set", "link", "cut", "what")
	case 1:
		s.Kids = []api.Select{{Name: "id"}}
	case 2:
		s.Args = s.Args[1:]
	case 3:
		s.Args = append(s.Args, randomArg(r, pick(r, "type", "id", "field", "number", "text", "to", "x")))
	}
	return s
}

// TestI1I2AgainstAnotherWay: random changes of states that they lead to.
func TestI1I2AgainstAnotherWay(t *testing.T) {
	r := rand.New(rand.NewSource(21))
	met, done := map[api.Errno]int{}, 0
	s := world()
	for range 30000 {
		var l []api.Select
		for range 1 + r.Intn(1+r.Intn(api.MaxEvents+6)) {
			l = append(l, randomSelect(r))
		}
		events, want, no, doNo := refAll(s, l)
		checkEvents(t, s, l, events, no)
		if doNo != api.OK {
			events = nil
		}
		checkDo(t, s, l, want, events, doNo)
		if t.Failed() {
			t.FailNow()
		}
		met[no]++
		switch {
		case doNo == api.OK:
			s, done = want, done+1
		case r.Intn(200) == 0:
			s = world()
		}
	}
	for _, no := range []api.Errno{api.OK, api.ErrForm, api.ErrMany, api.ErrState, api.ErrNone, api.ErrTwice, api.ErrKind} {
		if met[no] < 20 {
			t.Errorf("%d changes answered %d", met[no], no)
		}
	}
	if done < 1000 {
		t.Errorf("only %d changes were done", done)
	}
}

// TestP1WhateverItIsHanded ends, and answers nothing beside an error.
func TestP1WhateverItIsHanded(t *testing.T) {
	r := rand.New(rand.NewSource(22))
	odd := []int{-1 << 63, -1, 0, 1, 2, 3, 1000, 1<<63 - 1}
	number := func() int { return odd[r.Intn(len(odd))] }
	for range 20000 {
		s := world()
		switch r.Intn(6) {
		case 0:
			s.Types = s.Types[:r.Intn(2)]
		case 1:
			s.Things[r.Intn(4)] = api.Thing{Type: number(), Id: number(), Cells: make([]api.Cell, r.Intn(6))}
		}
		l := make([]api.Select, r.Intn(4))
		for i := range l {
			l[i] = randomSelect(r)
			if len(l[i].Args) > 0 && r.Intn(3) == 0 {
				l[i].Args[0] = api.Arg{Name: pick(r, "id", "type", "", "1"), IsText: r.Intn(2) == 0, N: number(), Text: pick(r, "", "A")}
			}
		}
		events, no := Events(s, l)
		if no != api.OK && len(events) > 0 || no == api.OK && len(events) != len(l) {
			t.Fatalf("Events(%v, %v): %v %d", s, l, events, no)
		}
		behind, done, doNo := Do(s, l)
		switch {
		case no != api.OK && doNo != no:
			t.Fatalf("Do(%v, %v): %d, but Events: %d", s, l, doNo, no)
		case doNo == api.OK && (state.Check(behind) != api.OK || !slices.Equal(done, events)):
			t.Fatalf("Do(%v, %v): %v %v", s, l, behind, done)
		case doNo != api.OK && (!nothing(behind) || len(done) > 0):
			t.Fatalf("Do(%v, %v): %v %v %d", s, l, behind, done, doNo)
		}
	}
}

// TestP1SelectsThatHoldThemselves come to an end.
func TestP1SelectsThatHoldThemselves(t *testing.T) {
	for _, n := range []int{1, 2, 50} {
		l := slices.Repeat([]api.Select{{Name: "make"}}, n)
		for i := range l {
			l[i].Kids = l
		}
		checkNo(t, world(), l, api.ErrMany)
	}
}

// TestP2WhatIsHandedInIsOnlyRead, the spare room too.
func TestP2WhatIsHandedInIsOnlyRead(t *testing.T) {
	fresh := func() (api.State, []api.Select) {
		s, list := world(), []int{2, 77, 78}
		s.Things[0].Cells[3].Ids = list[:1:3]
		s.Things = append(s.Things, thingB(9, 9))
		l := selects(t, `{x:make(id:7,type:"A") y:link(to:1,field:"l",id:1,type:"A") cut(type:"A",id:1,field:"l",to:2) set(text:"z",type:"A",id:1,field:"t") drop(type:"A",id:2) spare}`)
		l[0].Args = append(l[0].Args, api.Arg{Name: "spare"})
		return s, l
	}
	room, l := fresh()
	want, wantL := fresh()
	l[0].Args = l[0].Args[:2]
	s := api.State{Types: room.Types, Things: room.Things[:4]}
	events, no := Events(s, l[:5])
	behind, done, doNo := Do(s, l[:5])
	if no != api.OK || doNo != api.OK || len(events) != 5 || len(done) != 5 || len(behind.Things) != 4 {
		t.Errorf("%v %d; %v %v %d", events, no, behind, done, doNo)
	}
	l[0].Args = l[0].Args[:3]
	if !reflect.DeepEqual(room, want) || !reflect.DeepEqual(l, wantL) || !slices.Equal(room.Things[0].Cells[3].Ids[:3], []int{2, 77, 78}) {
		t.Errorf("it is %v and %v, and was %v and %v", room, l, want, wantL)
	}
}

// spoil every list of an answer, up to the end of its room.
func spoil(s api.State, l []api.Event) {
	for _, t := range s.Things {
		for _, c := range t.Cells {
			clear(c.Ids[:cap(c.Ids)])
		}
		clear(t.Cells[:cap(t.Cells)])
	}
	for _, t := range s.Types {
		clear(t.Fields[:cap(t.Fields)])
	}
	clear(s.Things[:cap(s.Things)])
	clear(s.Types[:cap(s.Types)])
	clear(l[:cap(l)])
}

// TestP2P3AnswersAreNew: what is done to an answer changes neither what was handed in, nor a later answer.
func TestP2P3AnswersAreNew(t *testing.T) {
	const text = `{make(id:7,type:"A") link(to:7,field:"l",id:1,type:"A") set(type:"A",id:1,field:"t",text:"z")}`
	s, l := world(), selects(t, text)
	want, wantEvents, no := Do(s, l)
	if no != api.OK {
		t.Fatalf("Do: %d", no)
	}
	want, wantEvents = plain(want), slices.Clone(wantEvents)
	for range 3 {
		events, _ := Events(s, l)
		spoil(api.State{}, events)
		behind, done, _ := Do(s, l)
		spoil(behind, done)
		checkEvents(t, s, l, wantEvents, api.OK)
		checkDo(t, s, l, want, wantEvents, api.OK)
		if !same(s, world()) || !reflect.DeepEqual(l, selects(t, text)) {
			t.Fatalf("what was handed in is %v and %v", s, l)
		}
	}
	// Nor does a change of what was handed in change the answer.
	events, _ := Events(s, l)
	behind, done, _ := Do(s, l)
	spoil(s, nil)
	for _, asked := range l {
		clear(asked.Args)
	}
	clear(l)
	if !slices.Equal(events, wantEvents) || !slices.Equal(done, wantEvents) || !same(behind, want) {
		t.Errorf("it is %v, %v and %v", events, done, behind)
	}
}
