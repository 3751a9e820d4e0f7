package disk

import (
	"fmt"
	"math"
	"slices"
	"strings"
	"testing"

	"halyard/api"
	"halyard/batch"
)

// sized: a batch of a number whose bytes are n (from 11 to 51).
func sized(number, n int) api.Batch {
	return api.Batch{Number: number, Events: []api.Event{{Kind: api.EventText, Id: 1, Text: strings.Repeat("w", n-11)}}}
}

// great: a batch of a number that has as many bytes as one may have, 373.
func great(number int) api.Batch {
	e := api.Event{Kind: api.EventText, Id: 1, Text: strings.Repeat("w", api.MaxWords)}
	return api.Batch{Number: number, Events: slices.Repeat([]api.Event{e}, api.MaxEvents)}
}

// coded: the bytes of batches, one behind the other.
func coded(t *testing.T, l ...api.Batch) string {
	t.Helper()
	s := ""
	for _, b := range l {
		one, no := batch.Encode(b)
		if no != api.OK {
			t.Fatalf("Encode(%v): %d", b, no)
		}
		s += one
	}
	return s
}

func of(synced int, segments ...string) api.Disk {
	return api.Disk{Segments: segments, Synced: synced}
}

func same(a, b api.Disk) bool {
	return a.Synced == b.Synced && slices.Equal(a.Segments, b.Segments)
}

func sameBatches(a, b []api.Batch) bool {
	return slices.EqualFunc(a, b, func(a, b api.Batch) bool { return a.Number == b.Number && slices.Equal(a.Events, b.Events) })
}

func nothing(d api.Disk) bool { return d.Synced == 0 && len(d.Segments) == 0 }

func checkDisk(t *testing.T, what string, got api.Disk, no api.Errno, want api.Disk, wantNo api.Errno) {
	t.Helper()
	if no != wantNo || !same(got, want) {
		t.Errorf("%s: %x %d, not %x %d", what, got, no, want, wantNo)
	}
}

func checkOpen(t *testing.T, d api.Disk, want []api.Batch, whole api.Disk) {
	t.Helper()
	l, got, no := Open(d)
	if !sameBatches(l, want) {
		t.Errorf("Open(%x): %v, not %v", d, l, want)
	}
	checkDisk(t, fmt.Sprintf("Open(%x)", d), got, no, whole, api.OK)
}

// checkWrong: every call answers what Check says, and nothing else, whatever else it is handed.
func checkWrong(t *testing.T, d api.Disk, want api.Errno) {
	t.Helper()
	what := fmt.Sprintf("of %x", d)
	checkDisk(t, "Check "+what, api.Disk{}, Check(d), api.Disk{}, want)
	l, o, no := Open(d)
	checkDisk(t, "Open "+what, o, no, api.Disk{}, want)
	if len(l) > 0 {
		t.Errorf("Open %s: %v", what, l)
	}
	for _, b := range []api.Batch{sized(9, 11), {}} {
		a, no := Append(d, b)
		checkDisk(t, "Append "+what, a, no, api.Disk{}, want)
	}
	s, no := Sync(d)
	checkDisk(t, "Sync "+what, s, no, api.Disk{}, want)
	for _, keep := range []int{0, 5, -1} {
		c, no := Crash(d, keep)
		checkDisk(t, "Crash "+what, c, no, api.Disk{}, want)
	}
}

func TestK1CheckErrors(t *testing.T) {
	b, long := coded(t, sized(1, 15)), coded(t, great(2), sized(3, 27))
	if len(b) != 15 || len(long) != api.MaxSegment {
		t.Fatalf("%d and %d bytes", len(b), len(long))
	}
	none := "\x00\x00"                                                     // No batch's: ErrForm.
	zero := "\x00\x07\x00\x00\x01\x01\x00\x00\x01"                         // Number 0: ErrRange.
	nine := "\x00\x27\x00\x01\x09" + strings.Repeat("\x01\x00\x00\x01", 9) // Nine events: ErrMany.
	for _, c := range []struct {
		d    api.Disk
		want api.Errno
	}{
		// How much, ahead of all else.
		{of(0, make([]string, 9)...), api.ErrMany}, {of(7, make([]string, 9)...), api.ErrMany}, {of(0, slices.Repeat([]string{none}, 9)...), api.ErrMany},
		{of(0, strings.Repeat("\xff", 401)), api.ErrMany}, {of(0, long+"\x00"), api.ErrMany}, {of(0, long+"\x00", b), api.ErrMany}, {of(0, none, b[:3], long+"x"), api.ErrMany}, {of(-1, strings.Repeat("\x00", 4000)), api.ErrMany},
		// What Decode says, of the first batch of which it says something, be the end torn or not.
		{of(0, none), api.ErrForm}, {of(0, b+none), api.ErrForm}, {of(15, b+none), api.ErrForm}, {of(0, b+none+b), api.ErrForm}, {of(0, b+none+b[:3]), api.ErrForm}, {of(0, b, none), api.ErrForm}, {of(0, none, b), api.ErrForm},
		{of(0, zero), api.ErrRange}, {of(0, b+zero+none), api.ErrRange}, {of(0, none+zero), api.ErrForm}, {of(0, nine), api.ErrMany}, {of(0, b, b+nine+zero, none), api.ErrMany}, {of(0, b+zero, none), api.ErrRange}, {of(0, b+none, zero), api.ErrForm},
		// A torn end, where it is not the last segment's.
		{of(0, b[:3], b), api.ErrState}, {of(0, b[:1], ""), api.ErrState}, {of(0, b+b[:14], b), api.ErrState}, {of(0, b, b+"\x00", b), api.ErrState}, {of(0, "\xff\xff", "\xff\xff"), api.ErrState}, {of(-1, b[:3], b), api.ErrState},
		{of(0, b[:3], none), api.ErrState}, {of(0, none, b[:3], b), api.ErrForm}, {of(0, b[:3], none, b), api.ErrState},
		// Synced, behind all.
		{of(1), api.ErrRange}, {of(-1), api.ErrRange}, {of(math.MaxInt), api.ErrRange}, {of(math.MinInt), api.ErrRange}, {of(1, ""), api.ErrRange},
		{of(-1, b), api.ErrRange}, {of(1, b), api.ErrRange}, {of(14, b), api.ErrRange}, {of(16, b), api.ErrRange}, {of(30, b), api.ErrRange}, {of(16, b+b), api.ErrRange}, {of(31, b+b), api.ErrRange},
		{of(18, b+b[:3]), api.ErrRange}, {of(16, b+b[:3]), api.ErrRange}, {of(3, b[:3]), api.ErrRange}, {of(400, strings.Repeat("\xff", 400)), api.ErrRange},
		{of(15, b, ""), api.ErrRange}, {of(30, b+b, b), api.ErrRange}, {of(math.MinInt, b), api.ErrRange}, {of(math.MaxInt, b), api.ErrRange},
	} {
		checkWrong(t, c.d, c.want)
	}
}

// TestK1CheckAndOpen: disks that are right, with and without a torn end.
func TestK1CheckAndOpen(t *testing.T) {
	one, two, three := sized(1, 15), sized(2, 11), sized(3, 27)
	b, c, long := coded(t, one), coded(t, two), coded(t, great(2), three)
	empty := make([]string, api.MaxSegments)
	for _, x := range []struct {
		d     api.Disk
		want  []api.Batch
		whole api.Disk
	}{
		{of(0), nil, of(0)}, {of(0, ""), nil, of(0, "")}, {of(0, empty...), nil, of(0, empty...)}, {of(0, "", b, "", c), []api.Batch{one, two}, of(11, "", b, "", c)},
		{of(0, b), []api.Batch{one}, of(15, b)}, {of(15, b), []api.Batch{one}, of(15, b)}, {of(0, b, ""), []api.Batch{one}, of(0, b, "")},
		{of(0, b+c), []api.Batch{one, two}, of(26, b+c)}, {of(15, b+c), []api.Batch{one, two}, of(26, b+c)}, {of(26, b+c), []api.Batch{one, two}, of(26, b+c)},
		{of(0, c+b, b), []api.Batch{two, one, one}, of(15, c+b, b)}, {of(400, b, long), []api.Batch{one, great(2), three}, of(400, b, long)}, {of(373, long), []api.Batch{great(2), three}, of(400, long)},
		{of(0, slices.Repeat([]string{b}, 8)...), slices.Repeat([]api.Batch{one}, 8), of(15, slices.Repeat([]string{b}, 8)...)},
		// Torn ends.
		{of(0, "\x00"), nil, of(0, "")}, {of(0, b[:14]), nil, of(0, "")}, {of(0, b+c[:1]), []api.Batch{one}, of(15, b)}, {of(15, b+c[:10]), []api.Batch{one}, of(15, b)}, {of(0, b, c[:2]), []api.Batch{one}, of(0, b, "")},
		{of(0, b, c+b+"\xff\xff\x00\x00"), []api.Batch{one, two, one}, of(26, b, c+b)}, {of(0, strings.Repeat("\xff", 400)), nil, of(0, "")}, {of(373, long[:399]), []api.Batch{great(2)}, of(373, long[:373])},
	} {
		if no := Check(x.d); no != api.OK {
			t.Errorf("Check(%x): %d", x.d, no)
		}
		checkOpen(t, x.d, x.want, x.whole)
		checkOpen(t, x.whole, x.want, x.whole)
	}
}

func TestK1Append(t *testing.T) {
	b, c, long := coded(t, sized(1, 15)), coded(t, sized(2, 11)), coded(t, great(2))
	eight := slices.Repeat([]string{long}, api.MaxSegments)
	for _, x := range []struct {
		d    api.Disk
		more api.Batch
		want api.Disk
		no   api.Errno
	}{
		{of(0), sized(2, 11), of(0, c), api.OK}, {of(0, ""), sized(2, 11), of(0, c), api.OK}, {of(0, b, ""), sized(2, 11), of(0, b, c), api.OK},
		{of(0, b), sized(2, 11), of(0, b+c), api.OK}, {of(15, b), sized(2, 11), of(15, b+c), api.OK}, {of(11, b, c+b), sized(2, 11), of(11, b, c+b+c), api.OK},
		// The same number again is nothing to a disk.
		{of(15, b), sized(1, 15), of(15, b+b), api.OK},
		// Room for all its bytes, and for one less.
		{of(373, long), sized(3, 27), of(373, coded(t, great(2), sized(3, 27))), api.OK}, {of(373, long), sized(3, 28), of(0, long, coded(t, sized(3, 28))), api.OK},
		{of(0, long), sized(3, 28), of(0, long, coded(t, sized(3, 28))), api.OK}, {of(0, ""), great(2), of(0, long), api.OK}, {of(0, b+c), great(2), of(0, b+c+long), api.OK}, {of(15, b+b), great(2), of(0, b+b, long), api.OK},
		// A segment ahead that has room is not gone back to.
		{of(0, b, long), sized(3, 28), of(0, b, long, coded(t, sized(3, 28))), api.OK},
		// As many segments as there may be.
		{of(0, eight...), sized(3, 28), api.Disk{}, api.ErrMany}, {of(373, eight...), great(2), api.Disk{}, api.ErrMany}, {of(373, eight...), sized(3, 27), of(373, append(slices.Clone(eight[:7]), long+coded(t, sized(3, 27)))...), api.OK},
		{of(0, eight[:7]...), sized(3, 28), of(0, append(slices.Clone(eight[:7]), coded(t, sized(3, 28)))...), api.OK}, {of(0, make([]string, 8)...), sized(2, 11), of(0, append(make([]string, 7), c)...), api.OK},
		// A torn end, ahead of too many segments.
		{of(0, "\x00"), sized(2, 11), api.Disk{}, api.ErrState}, {of(15, b+c[:10]), sized(2, 11), api.Disk{}, api.ErrState}, {of(0, append(slices.Clone(eight[:7]), long+"\x00")...), great(2), api.Disk{}, api.ErrState},
		// The batch, ahead of a torn end and of too many segments.
		{of(0), api.Batch{}, api.Disk{}, api.ErrRange}, {of(0, b), api.Batch{Number: 1}, api.Disk{}, api.ErrForm}, {of(0, b+"\x00"), api.Batch{Number: 65536}, api.Disk{}, api.ErrRange},
		{of(0, eight...), api.Batch{Number: 1, Events: make([]api.Event, 9)}, api.Disk{}, api.ErrMany}, {of(0, eight...), api.Batch{Number: 1, Events: make([]api.Event, 8)}, api.Disk{}, api.ErrKind}, {of(0, "\x00"), api.Batch{Number: 1, Events: make([]api.Event, 1)}, api.Disk{}, api.ErrKind},
	} {
		got, no := Append(x.d, x.more)
		checkDisk(t, fmt.Sprintf("Append(%x, %v)", x.d, x.more), got, no, x.want, x.no)
	}
}

func TestK2Sync(t *testing.T) {
	b, c := coded(t, sized(1, 15)), coded(t, sized(2, 11))
	for _, x := range []struct {
		d, want api.Disk
		no      api.Errno
	}{
		{of(0), of(0), api.OK}, {of(0, ""), of(0, ""), api.OK}, {of(0, b), of(15, b), api.OK}, {of(15, b), of(15, b), api.OK}, {of(15, b+c), of(26, b+c), api.OK}, {of(0, b, c), of(11, b, c), api.OK}, {of(0, b, ""), of(0, b, ""), api.OK},
		{of(0, "\x00"), api.Disk{}, api.ErrState}, {of(15, b+c[:10]), api.Disk{}, api.ErrState}, {of(0, b, c[:1]), api.Disk{}, api.ErrState}, {of(0, "\xff\xff"), api.Disk{}, api.ErrState},
	} {
		got, no := Sync(x.d)
		checkDisk(t, fmt.Sprintf("Sync(%x)", x.d), got, no, x.want, x.no)
	}
}

func TestK2Crash(t *testing.T) {
	b, c := coded(t, sized(1, 15)), coded(t, sized(2, 11))
	for _, x := range []struct {
		d    api.Disk
		keep int
		want api.Disk
		no   api.Errno
	}{
		{of(0), 0, of(0), api.OK}, {of(0), 5, of(0), api.OK}, {of(0, ""), 5, of(0, ""), api.OK}, {of(0, b), 0, of(0, ""), api.OK}, {of(0, b, c), 0, of(0, b, ""), api.OK}, {of(0, b, c), 4, of(0, b, c[:4]), api.OK},
		{of(15, b), 0, of(15, b), api.OK}, {of(15, b), 9, of(15, b), api.OK}, {of(15, b+c), 0, of(15, b), api.OK}, {of(15, b+c), 1, of(15, b+c[:1]), api.OK}, {of(15, b+c), 10, of(15, b+c[:10]), api.OK},
		{of(15, b+c), 11, of(15, b+c), api.OK}, {of(15, b+c), 12, of(15, b+c), api.OK}, {of(15, b+c), math.MaxInt, of(15, b+c), api.OK}, {of(0, b+c), 15, of(0, b), api.OK},
		// What is torn is torn the more.
		{of(15, b+c[:5]), 3, of(15, b+c[:3]), api.OK}, {of(15, b+c[:5]), 9, of(15, b+c[:5]), api.OK}, {of(0, "\xff\xff\xff"), 2, of(0, "\xff\xff"), api.OK},
		{of(0), -1, api.Disk{}, api.ErrRange}, {of(15, b), -1, api.Disk{}, api.ErrRange}, {of(15, b+c), math.MinInt, api.Disk{}, api.ErrRange}, {of(15, b+c[:5]), -1, api.Disk{}, api.ErrRange},
	} {
		got, no := Crash(x.d, x.keep)
		checkDisk(t, fmt.Sprintf("Crash(%x, %d)", x.d, x.keep), got, no, x.want, x.no)
	}
}

// TestP2WhatIsHandedInIsOnlyRead, the spare room too.
func TestP2WhatIsHandedInIsOnlyRead(t *testing.T) {
	b, long := coded(t, sized(1, 15)), coded(t, great(2))
	fresh := func() ([]string, []api.Event) {
		return []string{b, long, "spare", "room"}, append(sized(3, 28).Events, api.Event{Kind: 77})
	}
	room, events := fresh()
	want, wantEvents := fresh()
	more := api.Batch{Number: 3, Events: events[:1]}
	for n := range 3 {
		d := api.Disk{Segments: room[:n]}
		_, _, openNo := Open(d)
		_, appendNo := Append(d, more)
		_, syncNo := Sync(d)
		_, crashNo := Crash(d, 3)
		if Check(d) != api.OK || openNo != api.OK || appendNo != api.OK || syncNo != api.OK || crashNo != api.OK {
			t.Errorf("%d: %d %d %d %d", n, openNo, appendNo, syncNo, crashNo)
		}
		if !slices.Equal(room, want) || !slices.Equal(events, wantEvents) {
			t.Fatalf("%d: it is %x and %v", n, room, events)
		}
	}
}

// TestP2P3AnswersAreNew: what is done to an answer changes neither what was handed in, nor a later answer; and the other way round.
func TestP2P3AnswersAreNew(t *testing.T) {
	b, c := coded(t, sized(1, 15)), coded(t, sized(2, 13))
	d := of(15, c, b+c)
	calls := []func() (api.Disk, api.Errno){
		func() (api.Disk, api.Errno) { _, o, no := Open(d); return o, no },
		func() (api.Disk, api.Errno) { return Append(d, sized(3, 11)) },
		func() (api.Disk, api.Errno) { return Append(d, great(3)) },
		func() (api.Disk, api.Errno) { return Sync(d) },
		func() (api.Disk, api.Errno) { return Crash(d, 100) },
		func() (api.Disk, api.Errno) { return Crash(d, 2) },
	}
	for i, call := range calls {
		first, no := call()
		if no != api.OK {
			t.Fatalf("%d: %d", i, no)
		}
		want := of(first.Synced, slices.Clone(first.Segments)...)
		clear(first.Segments[:cap(first.Segments)])
		if again, _ := call(); !same(again, want) || !same(d, of(15, c, b+c)) {
			t.Errorf("%d: it is %x of %x, and was %x", i, again, d, want)
		}
		second, _ := call()
		clear(d.Segments)
		if !same(second, want) {
			t.Errorf("%d: it is %x, and was %x", i, second, want)
		}
		d = of(15, c, b+c)
	}
	l, _, _ := Open(d)
	clear(l[0].Events[:cap(l[0].Events)])
	if !sameBatches(l[1:], []api.Batch{sized(1, 15), sized(2, 13)}) {
		t.Errorf("two lists share memory: %v", l)
	}
	clear(l[:cap(l)])
	checkOpen(t, d, []api.Batch{sized(2, 13), sized(1, 15), sized(2, 13)}, of(28, c, b+c))
}
