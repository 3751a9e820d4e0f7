package desk

import (
	"fmt"
	"math"
	"reflect"
	"slices"
	"strings"
	"testing"

	"halyard/api"
	"halyard/disk"
)

func kinds() []api.Type {
	return []api.Type{
		{Name: "A", Fields: []api.Field{{Name: "n", Kind: api.FieldNumber}, {Name: "t", Kind: api.FieldText}, {Name: "b", Kind: api.FieldOne, Of: "B"}, {Name: "l", Kind: api.FieldMany, Of: "A"}}},
		{Name: "B", Fields: []api.Field{{Name: "m", Kind: api.FieldNumber}}},
	}
}

func of(number int, events ...api.Event) api.Batch { return api.Batch{Number: number, Events: events} }

func makes(id int) api.Event { return api.Event{Kind: api.EventMake, Id: id} }
func drops(id int) api.Event { return api.Event{Kind: api.EventDrop, Id: id} }
func number(id, n int) api.Event {
	return api.Event{Kind: api.EventNumber, Id: id, N: n}
}
func link(id, to int) api.Event {
	return api.Event{Kind: api.EventLink, Id: id, Field: 3, N: to}
}

// holds: a disk with batches, none of them Synced by hand.
func holds(t *testing.T, l ...api.Batch) api.Disk {
	t.Helper()
	var d api.Disk
	for _, b := range l {
		next, no := disk.Append(d, b)
		if no != api.OK {
			t.Fatalf("Append(%x, %v): %d", d, b, no)
		}
		d = next
	}
	return d
}

// synced: the same disk, all of it Synced, without a torn end.
func synced(t *testing.T, d api.Disk) api.Disk {
	t.Helper()
	_, whole, no := disk.Open(d)
	if no != api.OK {
		t.Fatalf("Open(%x): %d", d, no)
	}
	return whole
}

// tornBehind: the same disk, with a torn end behind all.
func tornBehind(d api.Disk) api.Disk {
	d.Segments = slices.Clone(d.Segments)
	d.Segments[len(d.Segments)-1] += "\x00\x07\x00"
	return d
}

// changed: a disk behind changes, numbered from 1 on.
func changed(t *testing.T, texts ...string) api.Disk {
	t.Helper()
	var d api.Disk
	for i, text := range texts {
		next, no := Change(kinds(), d, i+1, text)
		if no != api.OK {
			t.Fatalf("Change(%x, %d, %s): %d", d, i+1, text, no)
		}
		d = next
	}
	return d
}

func sameDisk(a, b api.Disk) bool {
	return a.Synced == b.Synced && slices.Equal(a.Segments, b.Segments)
}

func sameBatches(a, b []api.Batch) bool {
	return slices.EqualFunc(a, b, func(a, b api.Batch) bool { return a.Number == b.Number && slices.Equal(a.Events, b.Events) })
}

// sameState, be its empty lists nil or not.
func sameState(a, b api.State) bool { return fmt.Sprintf("%+v", a) == fmt.Sprintf("%+v", b) }

func checkAsk(t *testing.T, d api.Disk, text string, at int, want string, wantNo api.Errno) {
	t.Helper()
	if got, no := Ask(kinds(), d, text, at); no != wantNo || got != want {
		t.Errorf("Ask(%x, %s, %d): %s %d, not %s %d", d, text, at, got, no, want, wantNo)
	}
}

func checkChange(t *testing.T, d api.Disk, number int, text string, want api.Disk, wantNo api.Errno) {
	t.Helper()
	if got, no := Change(kinds(), d, number, text); no != wantNo || !sameDisk(got, want) {
		t.Errorf("Change(%x, %d, %s): %x %d, not %x %d", d, number, text, got, no, want, wantNo)
	}
}

// checkShut: a disk can't be opened, and every call tells why, and nothing else, whatever else is wrong.
func checkShut(t *testing.T, types []api.Type, d api.Disk, want api.Errno) {
	t.Helper()
	s, l, no := Open(types, d)
	if no != want || len(s.Types) > 0 || len(s.Things) > 0 || len(l) > 0 {
		t.Errorf("Open(%v, %x): %v %v %d, not %d", types, d, s, l, no, want)
	}
	for _, at := range []int{-1, 0, 1} {
		for _, text := range []string{"{", "{ A { id } }"} {
			if got, no := Ask(types, d, text, at); no != want || got != "" {
				t.Errorf("Ask(%v, %x, %s, %d): %s %d, not %d", types, d, text, at, got, no, want)
			}
		}
	}
	for _, number := range []int{0, 1, 9} {
		for _, text := range []string{"{", `{ make(type: "A", id: 1) }`} {
			if got, no := Change(types, d, number, text); no != want || got.Synced != 0 || len(got.Segments) > 0 {
				t.Errorf("Change(%v, %x, %d, %s): %x %d, not %d", types, d, number, text, got, no, want)
			}
		}
	}
}

func TestL1OpenErrors(t *testing.T) {
	twice, none := holds(t, of(1, makes(1)), of(1, makes(2))), holds(t, of(1, makes(1)), of(2, drops(2)))
	noTypes, noType, short := []api.Type{}, kinds(), kinds()[1:]
	noType[0].Fields[3].Of = "Z"
	wrong := api.Disk{Synced: 9}
	for _, c := range []struct {
		types []api.Type
		d     api.Disk
		want  api.Errno
	}{
		// The types, ahead of all else.
		{nil, api.Disk{}, api.ErrNone}, {noTypes, holds(t, of(1, makes(1))), api.ErrNone}, {nil, wrong, api.ErrNone}, {noType, wrong, api.ErrNone}, {slices.Repeat(kinds(), 3), wrong, api.ErrMany}, {slices.Repeat(kinds(), 2), twice, api.ErrTwice},
		{[]api.Type{{Name: "id"}}, none, api.ErrNone}, {[]api.Type{{Name: "Text"}}, wrong, api.ErrState},
		// The disk.
		{kinds(), wrong, api.ErrRange}, {kinds(), api.Disk{Segments: make([]string, 9)}, api.ErrMany}, {kinds(), api.Disk{Segments: []string{"\x00\x00"}}, api.ErrForm}, {kinds(), api.Disk{Segments: []string{"\x00", ""}}, api.ErrState},
		{kinds(), api.Disk{Segments: twice.Segments, Synced: 1}, api.ErrRange}, {kinds(), api.Disk{Segments: none.Segments, Synced: -1}, api.ErrRange},
		// One number twice, in whichever segments, ahead of events.
		{kinds(), twice, api.ErrTwice}, {kinds(), tornBehind(twice), api.ErrTwice}, {kinds(), holds(t, of(7, drops(1)), of(7, makes(1))), api.ErrTwice}, {kinds(), holds(t, of(1, makes(1)), of(2, drops(1)), of(3, drops(9)), of(1, makes(1))), api.ErrTwice},
		{kinds(), api.Disk{Segments: []string{twice.Segments[0][:9], "", twice.Segments[0][9:]}}, api.ErrTwice},
		// The first error of an event.
		{kinds(), none, api.ErrNone}, {kinds(), tornBehind(none), api.ErrNone}, {kinds(), holds(t, of(1, makes(1), makes(1), drops(2))), api.ErrTwice}, {kinds(), holds(t, of(1, makes(1)), of(2, drops(2)), of(3, makes(1))), api.ErrNone},
		{kinds(), holds(t, of(1, makes(1), link(1, 1)), of(2, drops(1))), api.ErrState}, {kinds(), holds(t, of(1, makes(1), api.Event{Kind: api.EventText, Id: 1})), api.ErrKind}, {short, holds(t, of(1, makes(1), link(1, 1))), api.ErrNone},
		{short, holds(t, of(1, api.Event{Kind: api.EventMake, Type: 1, Id: 1})), api.ErrNone},
	} {
		checkShut(t, c.types, c.d, c.want)
	}
}

func TestL1Open(t *testing.T) {
	one, two, three := of(9, makes(1), makes(2)), of(1, number(1, 5), link(1, 2)), of(65535, drops(1))
	a := func(id, n int, ids ...int) api.Thing {
		return api.Thing{Id: id, Cells: []api.Cell{{N: n}, {}, {}, {Ids: ids}}}
	}
	tooMany := []api.Batch{of(1, makes(1))}
	for i := range 2 * api.MaxBatches {
		tooMany = append(tooMany, of(i+2, number(1, i)))
	}
	for _, c := range []struct {
		d       api.Disk
		things  []api.Thing
		batches []api.Batch
	}{
		{api.Disk{}, nil, nil}, {api.Disk{Segments: []string{"", ""}}, nil, nil}, {api.Disk{Segments: []string{"\xff\xff"}}, nil, nil},
		{holds(t, one), []api.Thing{a(1, 0), a(2, 0)}, []api.Batch{one}},
		{holds(t, one, two), []api.Thing{a(1, 5, 2), a(2, 0)}, []api.Batch{one, two}},
		{tornBehind(holds(t, one, two)), []api.Thing{a(1, 5, 2), a(2, 0)}, []api.Batch{one, two}},
		{synced(t, holds(t, one, two, three)), []api.Thing{a(2, 0)}, []api.Batch{one, two, three}},
		// A disk may have more batches than changes make.
		{holds(t, tooMany...), []api.Thing{a(1, 39)}, tooMany},
	} {
		s, l, no := Open(kinds(), c.d)
		if want := (api.State{Types: kinds(), Things: c.things}); no != api.OK || !sameState(s, want) || !sameBatches(l, c.batches) {
			t.Errorf("Open(%x): %v %v %d, not %v %v", c.d, s, l, no, want, c.batches)
		}
	}
}

// TestL1AskTheExample of the document.
func TestL1AskTheExample(t *testing.T) {
	d := changed(t, `{ make(type: "A", id: 1) b: make(type: "A", id: 2) set(type: "A", id: 1, field: "n", number: 5) }`, `{ link(type: "A", id: 1, field: "l", to: 2) }`)
	const text = `{ A(id: 1) { n two: l { id } } }`
	checkAsk(t, d, text, 2, `{"A":{"n":5,"two":[{"id":2}]}}`, api.OK)
	checkAsk(t, d, text, 1, `{"A":{"n":5,"two":[]}}`, api.OK)
	checkAsk(t, d, text, 0, `{"A":null}`, api.OK)
	checkChange(t, d, 3, `{ drop(type: "A", id: 2) }`, api.Disk{}, api.ErrState)
}

func TestL1AskErrors(t *testing.T) {
	d := holds(t, of(1, makes(1)), of(2, makes(2), number(2, 7)))
	const fine = `{A{id n}}`
	for _, c := range []struct {
		text string
		at   int
		want string
		no   api.Errno
	}{
		{fine, 0, `{"A":[]}`, api.OK}, {fine, 1, `{"A":[{"id":1,"n":0}]}`, api.OK}, {fine, 2, `{"A":[{"id":1,"n":0},{"id":2,"n":7}]}`, api.OK},
		// The time, ahead of the text.
		{fine, -1, "", api.ErrRange}, {fine, 3, "", api.ErrRange}, {fine, math.MaxInt, "", api.ErrRange}, {fine, math.MinInt, "", api.ErrRange}, {"{", 3, "", api.ErrRange}, {"", -1, "", api.ErrRange},
		// No query.
		{"", 0, "", api.ErrForm}, {"{", 2, "", api.ErrForm}, {"{}", 2, "", api.ErrForm}, {"{A{id}}?", 2, "", api.ErrForm}, {strings.Repeat(" ", api.MaxText) + fine, 2, "", api.ErrMany}, {"{A{id id}}", 2, "", api.ErrTwice}, {"{Z{z z}}", 2, "", api.ErrTwice},
		// One that does not fit.
		{"{Z{id}}", 0, "", api.ErrNone}, {"{A{z}}", 0, "", api.ErrNone}, {"{A(id:0){id}}", 0, "", api.ErrRange}, {`{A(id:"1"){id}}`, 2, "", api.ErrKind}, {"{A}", 2, "", api.ErrState}, {"{A{l}}", 2, "", api.ErrState},
	} {
		checkAsk(t, d, c.text, c.at, c.want, c.no)
		checkAsk(t, tornBehind(d), c.text, c.at, c.want, c.no)
	}
}

// TestL1AskTooMuch: an answer of more outs than there may be.
func TestL1AskTooMuch(t *testing.T) {
	var l []api.Batch
	for id := 1; id <= 6; id++ {
		l = append(l, of(id, makes(id)))
	}
	for id := 1; id <= 6; id++ {
		var links []api.Event
		for to := 1; to <= api.MaxIds; to++ {
			links = append(links, link(id, to))
		}
		l = append(l, of(100+id, links...))
	}
	const text = "{A{l{l{l{id}}}}}"
	checkAsk(t, holds(t, l...), text, len(l), "", api.ErrMany)
	if s, no := Ask(kinds(), holds(t, l...), text, 7); no != api.OK || len(s) < 50 {
		t.Errorf("it is %s %d", s, no)
	}
}

func TestL2Change(t *testing.T) {
	one, two := of(7, makes(1)), of(8, number(1, 5))
	const text = `{ set(type: "A", id: 1, field: "n", number: 5) }`
	d := holds(t, one)
	both := synced(t, holds(t, one, two))
	// A number that is new: its batch is there, and Synced; so is what was not, and no torn end is.
	checkChange(t, d, 8, text, both, api.OK)
	checkChange(t, synced(t, d), 8, text, both, api.OK)
	checkChange(t, tornBehind(d), 8, text, both, api.OK)
	checkChange(t, api.Disk{}, 7, `{make(id:1 type:"A")}`, synced(t, d), api.OK)
	checkChange(t, api.Disk{Segments: []string{"\x00"}}, 7, `{make(id:1 type:"A")}`, synced(t, d), api.OK)
	checkChange(t, d, 65535, text, synced(t, holds(t, one, of(65535, two.Events...))), api.OK)
	checkChange(t, d, 1, text, synced(t, holds(t, one, of(1, two.Events...))), api.OK)
	// One that is there: whatever the text is.
	for _, again := range []string{"", "{", text, `{ drop(type: "A", id: 9) }`, strings.Repeat("{", 3000)} {
		checkChange(t, both, 7, again, both, api.OK)
		checkChange(t, both, 8, again, both, api.OK)
		checkChange(t, holds(t, one, two), 7, again, both, api.OK)
		checkChange(t, tornBehind(both), 8, again, both, api.OK)
		checkChange(t, api.Disk{Segments: []string{d.Segments[0], "\x00\x07"}}, 7, again, api.Disk{Segments: []string{d.Segments[0], ""}}, api.OK)
	}
}

func TestL2ChangeErrors(t *testing.T) {
	d := holds(t, of(7, makes(1)), of(8, makes(2), link(1, 2)))
	const fine = `{ make(type: "A", id: 3) }`
	for _, c := range []struct {
		number int
		text   string
		want   api.Errno
	}{
		// The number, ahead of the text.
		{0, fine, api.ErrRange}, {-1, fine, api.ErrRange}, {65536, fine, api.ErrRange}, {-7, "{", api.ErrRange}, {65536, "{", api.ErrRange}, {0, "{", api.ErrRange}, {65536 + 7, "{", api.ErrRange}, {math.MaxInt, "", api.ErrRange}, {math.MinInt, "", api.ErrRange},
		// No query.
		{1, "", api.ErrForm}, {1, "{", api.ErrForm}, {1, "?", api.ErrForm}, {1, strings.Repeat(" ", api.MaxText) + fine, api.ErrMany}, {1, `{make(id:1 id:2)}`, api.ErrTwice}, {1, `{make(type:"A" id:3) make(type:"A" id:4)}`, api.ErrTwice},
		// No change.
		{1, "{what}", api.ErrNone}, {1, `{make(type:"A")}`, api.ErrForm}, {1, `{make(type:"A" id:"3")}`, api.ErrKind}, {1, `{make(type:"Z" id:3)}`, api.ErrNone}, {1, `{make(type:"A" id:3){id}}`, api.ErrState}, {1, `{set(type:"A" id:1 field:"z" number:1)}`, api.ErrNone},
		{1, `{a:make(type:"A" id:3)b:make(type:"A" id:4)c:make(type:"A" id:5)d:make(type:"A" id:6)e:make(type:"A" id:7)f:make(type:"A" id:8)g:make(type:"A" id:9)h:make(type:"A" id:10)i:make(type:"A" id:11)}`, api.ErrMany},
		// One that can't be done.
		{1, `{make(type:"A" id:1)}`, api.ErrTwice}, {1, `{drop(type:"A" id:2)}`, api.ErrState}, {1, `{drop(type:"A" id:3)}`, api.ErrNone}, {1, `{make(type:"A" id:1000)}`, api.ErrRange}, {1, `{set(type:"A" id:1 field:"n" text:"x")}`, api.ErrKind},
		{1, `{make(type:"A" id:3) drop(type:"A" id:4)}`, api.ErrNone},
	} {
		checkChange(t, d, c.number, c.text, api.Disk{}, c.want)
		checkChange(t, tornBehind(d), c.number, c.text, api.Disk{}, c.want)
	}
}

// TestL2MaxBatches: as many as there may be, behind what is wrong with a change; more of them, if they came so.
func TestL2MaxBatches(t *testing.T) {
	l := []api.Batch{of(1, makes(1))}
	for i := range api.MaxBatches + 2 {
		l = append(l, of(i+2, number(1, i)))
	}
	const text = `{ set(type: "A", id: 1, field: "n", number: 5) }`
	for n := api.MaxBatches - 1; n < len(l); n++ {
		d := holds(t, l[:n]...)
		want, no := synced(t, holds(t, append(slices.Clone(l[:n]), of(99, number(1, 5)))...)), api.OK
		if n >= api.MaxBatches {
			want, no = api.Disk{}, api.ErrMany
		}
		checkChange(t, d, 99, text, want, no)
		checkChange(t, d, n, text, synced(t, d), api.OK)
		checkChange(t, d, 0, text, api.Disk{}, api.ErrRange)
		checkChange(t, d, 99, "{", api.Disk{}, api.ErrForm)
		checkChange(t, d, 99, `{make(type:"A" id:1)}`, api.Disk{}, api.ErrTwice)
	}
}

// TestL2MaxSegments: a disk on which no more goes, though there are few batches.
func TestL2MaxSegments(t *testing.T) {
	great := "{ "
	for i := range api.MaxEvents {
		great += fmt.Sprintf(`x%d: set(type: "A", id: 1, field: "t", text: "%s") `, i, strings.Repeat("w", api.MaxWords))
	}
	great += "}"
	texts := append([]string{`{ make(type: "A", id: 1) set(type: "A", id: 1, field: "n", number: 1) }`}, slices.Repeat([]string{great}, api.MaxSegments)...)
	d := changed(t, texts...)
	if len(d.Segments) != api.MaxSegments {
		t.Fatalf("%d segments", len(d.Segments))
	}
	checkChange(t, d, 99, great, api.Disk{}, api.ErrMany)
	checkChange(t, d, 99, `{make(type:"A" id:1)}`, api.Disk{}, api.ErrTwice)
	checkChange(t, d, 9, great, d, api.OK)
	if got, no := Change(kinds(), d, 99, `{ make(type: "A", id: 2) }`); no != api.OK || len(got.Segments) != api.MaxSegments || got.Synced != 373+9 {
		t.Errorf("%x %d", got, no)
	}
}

// TestP2WhatIsHandedInIsOnlyRead, the spare room too.
func TestP2WhatIsHandedInIsOnlyRead(t *testing.T) {
	fresh := func() ([]api.Type, []string) {
		types := append(kinds(), api.Type{Name: "spare"})
		types[0].Fields = append(types[0].Fields, api.Field{Name: "spare"})
		return types, []string{holds(t, of(1, makes(1), link(1, 1))).Segments[0] + "\x00", "spare", "room"}
	}
	types, segments := fresh()
	wantTypes, wantSegments := fresh()
	handed := []api.Type{types[0], types[1], types[2]}[:2]
	handed[0].Fields = handed[0].Fields[:4]
	d := api.Disk{Segments: segments[:1]}
	_, _, openNo := Open(handed, d)
	_, askNo := Ask(handed, d, "{A{id l{id}}}", 1)
	_, newNo := Change(handed, d, 2, `{make(type:"A" id:2) link(type:"A" id:1 field:"l" to:2)}`)
	_, againNo := Change(handed, d, 1, "")
	if openNo != api.OK || askNo != api.OK || newNo != api.OK || againNo != api.OK {
		t.Errorf("%d %d %d %d", openNo, askNo, newNo, againNo)
	}
	if !reflect.DeepEqual(types, wantTypes) || !reflect.DeepEqual(handed[:3][2], wantTypes[2]) || !slices.Equal(segments, wantSegments) {
		t.Errorf("it is %v and %x, and was %v and %x", types, segments, wantTypes, wantSegments)
	}
}

// spoil every list of an answer, up to the end of its room.
func spoil(s api.State, l []api.Batch) {
	for _, t := range s.Things {
		for _, c := range t.Cells {
			clear(c.Ids[:cap(c.Ids)])
		}
		clear(t.Cells[:cap(t.Cells)])
	}
	for _, t := range s.Types {
		clear(t.Fields[:cap(t.Fields)])
	}
	for _, b := range l {
		clear(b.Events[:cap(b.Events)])
	}
	clear(s.Things[:cap(s.Things)])
	clear(s.Types[:cap(s.Types)])
	clear(l[:cap(l)])
}

// TestP2P3AnswersAreNew: what is done to an answer changes neither what was handed in, nor a later answer; and the other way round.
func TestP2P3AnswersAreNew(t *testing.T) {
	one, two := of(1, makes(1), makes(2)), of(2, link(1, 2))
	d, types := holds(t, one, two), kinds()
	first, batches, _ := Open(types, d)
	want := fmt.Sprintf("%+v", first)
	spoil(first, batches)
	s, l, no := Open(types, d)
	if no != api.OK || fmt.Sprintf("%+v", s) != want || !sameBatches(l, []api.Batch{one, two}) {
		t.Errorf("it is %v %v %d, and was %s", s, l, no, want)
	}
	for i, call := range []func() (api.Disk, api.Errno){
		func() (api.Disk, api.Errno) { return Change(types, d, 1, "") },
		func() (api.Disk, api.Errno) { return Change(types, d, 3, `{make(type:"A" id:3)}`) },
	} {
		first, no := call()
		was := api.Disk{Segments: slices.Clone(first.Segments), Synced: first.Synced}
		clear(first.Segments[:cap(first.Segments)])
		if again, _ := call(); no != api.OK || !sameDisk(again, was) || !sameDisk(d, holds(t, one, two)) {
			t.Errorf("%d: it is %x of %x %d, and was %x", i, again, d, no, was)
		}
	}
	spoil(api.State{Types: types}, nil)
	clear(d.Segments)
	if fmt.Sprintf("%+v", s) != want {
		t.Errorf("it is %v, and was %s", s, want)
	}
}
