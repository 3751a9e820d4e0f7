package batch

import (
	"fmt"
	"math"
	"reflect"
	"slices"
	"strings"
	"testing"

	"halyard/api"
)

func of(number int, events ...api.Event) api.Batch { return api.Batch{Number: number, Events: events} }

func makes(kind, id int) api.Event { return api.Event{Kind: api.EventMake, Type: kind, Id: id} }
func drops(kind, id int) api.Event { return api.Event{Kind: api.EventDrop, Type: kind, Id: id} }
func number(kind, id, field, n int) api.Event {
	return api.Event{Kind: api.EventNumber, Type: kind, Id: id, Field: field, N: n}
}
func text(kind, id, field int, s string) api.Event {
	return api.Event{Kind: api.EventText, Type: kind, Id: id, Field: field, Text: s}
}
func link(kind, id, field, n int) api.Event {
	return api.Event{Kind: api.EventLink, Type: kind, Id: id, Field: field, N: n}
}
func cut(kind, id, field, n int) api.Event {
	return api.Event{Kind: api.EventCut, Type: kind, Id: id, Field: field, N: n}
}

func same(a, b api.Batch) bool { return a.Number == b.Number && slices.Equal(a.Events, b.Events) }

// bytesOf a text of hexadecimal digits, with blanks between.
func bytesOf(t *testing.T, digits string) string {
	t.Helper()
	var s []byte
	if digits = strings.ReplaceAll(digits, " ", ""); digits == "" {
		return ""
	}
	if _, err := fmt.Sscanf(digits, "%x", &s); err != nil {
		t.Fatalf("%q: %v", digits, err)
	}
	return string(s)
}

// checkWrong: Check and Encode answer an error, and nothing else.
func checkWrong(t *testing.T, b api.Batch, want api.Errno) {
	t.Helper()
	if no := Check(b); no != want {
		t.Errorf("Check(%v): %d, not %d", b, no, want)
	}
	if s, no := Encode(b); no != want || s != "" {
		t.Errorf("Encode(%v): %x %d, not %d", b, s, no, want)
	}
}

// checkNone: Decode answers an error, and nothing else.
func checkNone(t *testing.T, s string, want api.Errno) {
	t.Helper()
	if b, n, no := Decode(s); no != want || n != 0 || b.Number != 0 || len(b.Events) > 0 {
		t.Errorf("Decode(%x): %v %d %d, not %d", s, b, n, no, want)
	}
}

func TestJ1Check(t *testing.T) {
	full := strings.Repeat("w", api.MaxWords)
	fine, many := makes(0, 1), make([]api.Event, api.MaxEvents+1)
	for _, c := range []struct {
		b    api.Batch
		want api.Errno
	}{
		// Its number, ahead of its events.
		{api.Batch{}, api.ErrRange}, {of(0, fine), api.ErrRange}, {of(-1, fine), api.ErrRange}, {of(65536, fine), api.ErrRange}, {of(math.MaxInt, fine), api.ErrRange}, {of(math.MinInt, fine), api.ErrRange},
		{of(0, many...), api.ErrRange}, {of(65536), api.ErrRange}, {of(0, api.Event{}), api.ErrRange},
		// How many events, ahead of what is wrong with one.
		{of(1), api.ErrForm}, {api.Batch{Number: 65535, Events: []api.Event{}}, api.ErrForm},
		{of(1, many...), api.ErrMany}, {of(1, slices.Repeat([]api.Event{fine}, api.MaxEvents+1)...), api.ErrMany}, {of(1, many[1:]...), api.ErrKind},
		// Kinds, ahead of all else of an event.
		{of(1, api.Event{}), api.ErrKind}, {of(1, api.Event{Kind: 7, Id: 1}), api.ErrKind}, {of(1, api.Event{Kind: -1, Id: 1}), api.ErrKind}, {of(1, api.Event{Kind: math.MaxInt, Type: -1, N: 1, Text: full + "w"}), api.ErrKind},
		// What a kind does not name, ahead of ranges.
		{of(1, api.Event{Kind: api.EventMake, Id: 1, Field: 1}), api.ErrForm}, {of(1, api.Event{Kind: api.EventMake, Id: 1, N: 1}), api.ErrForm}, {of(1, api.Event{Kind: api.EventMake, Id: 1, Text: "x"}), api.ErrForm},
		{of(1, api.Event{Kind: api.EventDrop, Id: 1, Field: -1}), api.ErrForm}, {of(1, api.Event{Kind: api.EventDrop, Id: 1, N: -1}), api.ErrForm}, {of(1, api.Event{Kind: api.EventDrop, Id: 1, Text: full + "w"}), api.ErrForm},
		{of(1, api.Event{Kind: api.EventNumber, Id: 1, Text: "x"}), api.ErrForm}, {of(1, api.Event{Kind: api.EventLink, Id: 1, Text: "x"}), api.ErrForm}, {of(1, api.Event{Kind: api.EventCut, Id: 1, Text: "x"}), api.ErrForm},
		{of(1, api.Event{Kind: api.EventText, Id: 1, N: 1}), api.ErrForm}, {of(1, api.Event{Kind: api.EventText, N: math.MinInt, Text: full + "w"}), api.ErrForm}, {of(1, api.Event{Kind: api.EventNumber, Type: 9, Text: "x"}), api.ErrForm},
		// Ranges.
		{of(1, makes(-1, 1)), api.ErrRange}, {of(1, makes(5, 1)), api.ErrRange}, {of(1, drops(256, 1)), api.ErrRange}, {of(1, text(math.MinInt, 1, 0, "")), api.ErrRange},
		{of(1, makes(0, 0)), api.ErrRange}, {of(1, drops(0, -1)), api.ErrRange}, {of(1, makes(0, 1000)), api.ErrRange}, {of(1, cut(0, 65537, 0, 0)), api.ErrRange},
		{of(1, number(0, 1, -1, 0)), api.ErrRange}, {of(1, number(0, 1, 6, 0)), api.ErrRange}, {of(1, text(0, 1, 6, "")), api.ErrRange}, {of(1, link(0, 1, -1, 0)), api.ErrRange}, {of(1, cut(0, 1, 256, 0)), api.ErrRange},
		{of(1, number(0, 1, 0, 1000000000)), api.ErrRange}, {of(1, number(0, 1, 0, -1000000000)), api.ErrRange}, {of(1, link(0, 1, 0, math.MaxInt)), api.ErrRange}, {of(1, cut(0, 1, 0, math.MinInt)), api.ErrRange},
		// Ranges ahead of texts.
		{of(1, text(0, 1, 0, full+"w")), api.ErrMany}, {of(1, text(5, 1, 0, full+"w")), api.ErrRange}, {of(1, text(0, 0, 0, full+"w")), api.ErrRange}, {of(1, text(0, 1, 6, full+"w")), api.ErrRange},
		{of(1, text(0, 1, 0, strings.Repeat("w", 256))), api.ErrMany},
		// The first event of which something is wrong tells.
		{of(1, fine, api.Event{}, makes(5, 1)), api.ErrKind}, {of(1, fine, makes(5, 1), api.Event{}), api.ErrRange}, {of(1, text(0, 1, 0, full+"w"), api.Event{Kind: 1, N: 1}), api.ErrMany},
		{of(1, append(slices.Repeat([]api.Event{fine}, api.MaxEvents-1), makes(0, 0))...), api.ErrRange},
	} {
		checkWrong(t, c.b, c.want)
	}
}

// codes: batches and their bytes.
func codes() []struct {
	b      api.Batch
	digits string
} {
	w40 := strings.Repeat("w", 40)
	return []struct {
		b      api.Batch
		digits string
	}{
		{of(1, makes(0, 1)), "0007 0001 01  01 00 0001"},
		{of(65535, makes(0, 1)), "0007 ffff 01  01 00 0001"},
		{of(258, drops(4, 999)), "0007 0102 01  02 04 03e7"},
		{of(256, number(1, 256, 5, 0)), "000c 0100 01  03 01 0100 05 3b9ac9ff"},
		{of(1, number(0, 1, 0, 999999999)), "000c 0001 01  03 00 0001 00 773593fe"},
		{of(1, number(0, 1, 0, -999999999)), "000c 0001 01  03 00 0001 00 00000000"},
		{of(1, number(0, 1, 0, -999999998)), "000c 0001 01  03 00 0001 00 00000001"},
		{of(1, text(0, 1, 0, "")), "0009 0001 01  04 00 0001 00 00"},
		{of(1, text(2, 3, 4, "ab\x00\xff\"")), "000e 0001 01  04 02 0003 04 05 6162 00ff 22"},
		{of(1, text(0, 1, 0, w40)), "0031 0001 01  04 00 0001 00 28" + strings.Repeat("77", 40)},
		{of(1, link(1, 2, 3, 4)), "000c 0001 01  05 01 0002 03 3b9aca03"},
		{of(1, cut(1, 2, 3, -1)), "000c 0001 01  06 01 0002 03 3b9ac9fe"},
		{of(513, makes(0, 1), text(0, 1, 1, "x"), number(0, 1, 0, 1), drops(0, 1)), "001b 0201 04  01 00 0001  04 00 0001 01 01 78  03 00 0001 00 3b9aca00  02 00 0001"},
		{of(1, slices.Repeat([]api.Event{makes(0, 1)}, 8)...), "0023 0001 08" + strings.Repeat("01 00 0001", 8)},
		{of(1, slices.Repeat([]api.Event{text(0, 1, 0, w40)}, 8)...), "0173 0001 08" + strings.Repeat("04 00 0001 00 28"+strings.Repeat("77", 40), 8)},
	}
}

func TestJ2EncodeAndDecode(t *testing.T) {
	for _, c := range codes() {
		want := bytesOf(t, c.digits)
		if no := Check(c.b); no != api.OK {
			t.Errorf("Check(%v): %d", c.b, no)
		}
		if s, no := Encode(c.b); no != api.OK || s != want {
			t.Errorf("Encode(%v): %x %d, not %x", c.b, s, no, want)
		}
		// Whatever is behind it.
		for _, behind := range []string{"", "\x00", "more", want, want[:len(want)-1], "\xff\xff"} {
			if b, n, no := Decode(want + behind); no != api.OK || n != len(want) || !same(b, c.b) {
				t.Errorf("Decode(%x): %v %d %d, not %v", want+behind, b, n, no, c.b)
			}
		}
		for n := range len(want) {
			checkNone(t, want[:n], api.ErrNone)
		}
	}
}

func TestJ2DecodeErrors(t *testing.T) {
	for _, c := range []struct {
		digits string
		want   api.Errno
	}{
		// Less than two bytes, or less than they say follow, whatever these are.
		{"", api.ErrNone}, {"00", api.ErrNone}, {"ff", api.ErrNone}, {"0001", api.ErrNone}, {"0100 00", api.ErrNone}, {"ffff 0001 01 01 00 0001", api.ErrNone},
		{"0008 0001 01  01 00 0001", api.ErrNone}, {"0008 0000 01  07 ff ffff", api.ErrNone}, {"0004 ffff ff", api.ErrNone},
		// No batch's: too few bytes, at each place.
		{"0000", api.ErrForm}, {"0000 0001 01  01 00 0001", api.ErrForm}, {"0001 00", api.ErrForm}, {"0002 0001", api.ErrForm}, {"0003 0001 01", api.ErrForm},
		{"0004 0001 01  01", api.ErrForm}, {"0005 0001 01  01 00", api.ErrForm}, {"0006 0001 01  01 00 00", api.ErrForm}, {"0006 0001 01  01 00 00 01", api.ErrForm},
		{"0007 0001 01  03 00 0001", api.ErrForm}, {"0008 0001 01  03 00 0001 00", api.ErrForm}, {"000b 0001 01  03 00 0001 00 3b9ac9", api.ErrForm}, {"000b 0001 01  05 00 0001 00 3b9ac9 ff", api.ErrForm},
		{"0008 0001 01  04 00 0001 00", api.ErrForm}, {"0009 0001 01  04 00 0001 00 01", api.ErrForm}, {"000a 0001 01  04 00 0001 00 02 77", api.ErrForm}, {"0009 0001 01  04 00 0001 00 ff" + strings.Repeat("77", 255), api.ErrForm},
		{"0007 0001 02  01 00 0001", api.ErrForm}, {"000a 0001 02  01 00 0001  01 00 00", api.ErrForm},
		// Too many bytes.
		{"0008 0001 01  01 00 0001 00", api.ErrForm}, {"000d 0001 01  03 00 0001 00 3b9ac9ff 00", api.ErrForm}, {"000a 0001 01  04 00 0001 00 00 77", api.ErrForm}, {"000b 0001 01  01 00 0001  01 00 0002", api.ErrForm}, {"0004 0001 00 00", api.ErrForm},
		// Events of no kind.
		{"0007 0001 01  00 00 0001", api.ErrForm}, {"0007 0001 01  07 00 0001", api.ErrForm}, {"0007 0001 01  ff 00 0001", api.ErrForm}, {"000c 0001 01  07 00 0001 00 3b9ac9ff", api.ErrForm},
		// The form goes ahead of what Check says of what is ahead.
		{"0007 0000 01  07 00 0001", api.ErrForm}, {"0008 0000 01  01 05 0000 00", api.ErrForm}, {"000b 0001 02  01 05 0000  07 00 0001", api.ErrForm}, {"0006 0000 01  01 05 00", api.ErrForm},
		{"0026 0000 09" + strings.Repeat("01 00 0001", 8) + "01 00 00", api.ErrForm},
		// What Check says.
		{"0007 0000 01  01 00 0001", api.ErrRange}, {"0003 0001 00", api.ErrForm}, {"0003 0000 00", api.ErrRange},
		{"0027 0001 09" + strings.Repeat("01 00 0001", 9), api.ErrMany}, {"0027 0000 09" + strings.Repeat("01 00 0001", 9), api.ErrRange}, {"03ff 0001 ff" + strings.Repeat("01 ff 0000", 255), api.ErrMany},
		{"0007 0001 01  01 05 0001", api.ErrRange}, {"0007 0001 01  02 ff 0001", api.ErrRange}, {"0007 0001 01  01 00 0000", api.ErrRange}, {"0007 0001 01  01 00 03e8", api.ErrRange}, {"0007 0001 01  01 00 ffff", api.ErrRange},
		{"000c 0001 01  03 00 0001 06 3b9ac9ff", api.ErrRange}, {"0009 0001 01  04 00 0001 ff 00", api.ErrRange}, {"000c 0001 01  06 00 0001 ff 3b9ac9ff", api.ErrRange},
		{"000c 0001 01  03 00 0001 00 773593ff", api.ErrRange}, {"000c 0001 01  05 00 0001 00 80000000", api.ErrRange}, {"000c 0001 01  06 00 0001 00 ffffffff", api.ErrRange},
		{"0032 0001 01  04 00 0001 00 29" + strings.Repeat("77", 41), api.ErrMany}, {"0108 0001 01  04 00 0001 00 ff" + strings.Repeat("77", 255), api.ErrMany}, {"0032 0001 01  04 05 0001 00 29" + strings.Repeat("77", 41), api.ErrRange},
		{"0010 0001 02  01 05 0001  03 00 0001 00 3b9ac9ff", api.ErrRange}, {"0037 0001 02  04 00 0001 00 29" + strings.Repeat("77", 41) + "01 00 0000 00", api.ErrForm}, {"0036 0001 02  04 00 0001 00 29" + strings.Repeat("77", 41) + "01 00 0000", api.ErrMany},
	} {
		checkNone(t, bytesOf(t, c.digits), c.want)
	}
}

// TestP2WhatIsHandedInIsOnlyRead, the spare room too.
func TestP2WhatIsHandedInIsOnlyRead(t *testing.T) {
	fresh := func() []api.Event {
		return []api.Event{makes(0, 1), text(0, 1, 1, "x"), number(0, 1, 0, 1), {Kind: 77}}
	}
	events := fresh()
	b := api.Batch{Number: 1, Events: events[:3]}
	s, no := Encode(b)
	if Check(b) != api.OK || no != api.OK {
		t.Errorf("Check, Encode: %d", no)
	}
	if !reflect.DeepEqual(events, fresh()) {
		t.Errorf("the events are %v", events)
	}
	clear(events)
	if got, _, no := Decode(s); no != api.OK || !same(got, of(1, fresh()[:3]...)) {
		t.Errorf("it is decoded %v %d", got, no)
	}
}

// TestP2P3AnswersAreNew: what is done to an answer changes no later one.
func TestP2P3AnswersAreNew(t *testing.T) {
	for _, c := range codes() {
		s := bytesOf(t, c.digits)
		for range 3 {
			b, n, no := Decode(s)
			if no != api.OK || n != len(s) || !same(b, c.b) {
				t.Fatalf("Decode(%x): %v %d %d", s, b, n, no)
			}
			clear(b.Events[:cap(b.Events)])
		}
	}
}
