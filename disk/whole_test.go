package disk

import (
	"math"
	"math/rand"
	"slices"
	"strings"
	"testing"

	"halyard/api"
	"halyard/batch"
)

func randomBatch(r *rand.Rand) api.Batch {
	b := api.Batch{Number: 1 + r.Intn(api.MaxNumber)}
	for range 1 + r.Intn(api.MaxEvents) {
		e := api.Event{Kind: api.EventMake, Type: r.Intn(api.MaxTypes), Id: 1 + r.Intn(api.MaxId)}
		if r.Intn(2) == 0 {
			e.Kind, e.Text = api.EventText, strings.Repeat("\x00", r.Intn(api.MaxWords+1))
		}
		b.Events = append(b.Events, e)
	}
	return b
}

// story: what was put on a disk, told without bytes: of each segment its batches; how many of all are there for good.
type story struct {
	segments [][]api.Batch
	good     int
}

func (s story) all() []api.Batch { return slices.Concat(s.segments...) }

func size(l []api.Batch) int {
	n := 0
	for _, b := range l {
		one, _ := batch.Encode(b)
		n += len(one)
	}
	return n
}

// put a batch: whether there was room.
func (s *story) put(b api.Batch) bool {
	last := len(s.segments) - 1
	switch {
	case last >= 0 && size(s.segments[last])+size([]api.Batch{b}) <= api.MaxSegment:
		s.segments[last] = append(s.segments[last], b)
	case last == api.MaxSegments-1:
		return false
	default:
		s.good = len(s.all())
		s.segments = append(s.segments, []api.Batch{b})
	}
	return true
}

// crash: those of the last segment stay that are for good, and those that are whole within keep bytes behind them.
func (s *story) crash(keep int) {
	last := len(s.segments) - 1
	if last < 0 {
		return
	}
	stay := s.good - (len(s.all()) - len(s.segments[last]))
	for stay < len(s.segments[last]) {
		if keep -= size(s.segments[last][stay : stay+1]); keep < 0 {
			break
		}
		stay++
	}
	s.segments[last] = s.segments[last][:stay]
}

// TestK3BatchesLast: of a disk that is put on, Synced, crashed and opened at random: a batch that was Synced is there behind a crash; one that was not is whole, or not there at all.
func TestK3BatchesLast(t *testing.T) {
	r := rand.New(rand.NewSource(31))
	torn, full, lost := 0, 0, 0
	for range 400 {
		var d api.Disk
		var s story
		for range 60 {
			switch r.Intn(6) {
			default:
				b := randomBatch(r)
				put, no := Append(d, b)
				if !s.put(b) {
					full++
					if no != api.ErrMany || !nothing(put) {
						t.Fatalf("Append(%x, %v): %x %d", d, b, put, no)
					}
					continue
				}
				if no != api.OK {
					t.Fatalf("Append(%x, %v): %d", d, b, no)
				}
				d = put
			case 0:
				synced, no := Sync(d)
				if no != api.OK {
					t.Fatalf("Sync(%x): %d", d, no)
				}
				d, s.good = synced, len(s.all())
			case 1:
				good, had := s.all()[:s.good], len(s.all())
				keep := r.Intn(1 + r.Intn(api.MaxSegment))
				crashed, no := Crash(d, keep)
				s.crash(keep)
				l, whole, openNo := Open(crashed)
				if no != api.OK || openNo != api.OK || !sameBatches(l, s.all()) || !sameBatches(l[:len(good)], good) {
					t.Fatalf("Crash(%x, %d): %x %d, opened %v %d, not %v", d, keep, crashed, no, l, openNo, s.all())
				}
				if !same(whole, api.Disk{Segments: crashed.Segments, Synced: whole.Synced}) {
					torn++
				}
				if len(l) < had {
					lost++
				}
				d, s.good = whole, len(l)
			}
			checkOpenedAs(t, d, s.all())
		}
	}
	if torn < 100 || full < 100 || lost < 100 {
		t.Errorf("%d ends were torn, %d disks full, %d crashes lost batches", torn, full, lost)
	}
}

// checkOpenedAs batches, with all bytes that are theirs, and no other ones.
func checkOpenedAs(t *testing.T, d api.Disk, want []api.Batch) {
	t.Helper()
	l, whole, no := Open(d)
	if no != api.OK || !sameBatches(l, want) || strings.Join(whole.Segments, "") != coded(t, want...) {
		t.Fatalf("Open(%x): %v %x %d, not %v", d, l, whole, no, want)
	}
	if n := len(whole.Segments); n > 0 && whole.Synced != len(whole.Segments[n-1]) || n == 0 && whole.Synced != 0 {
		t.Fatalf("Open(%x): Synced %d of %x", d, whole.Synced, whole.Segments)
	}
}

// TestK3EveryCrash of a disk with batches that are for good, and others.
func TestK3EveryCrash(t *testing.T) {
	l := []api.Batch{sized(1, 28), great(2), sized(3, 11), sized(4, 12)}
	for synced := range len(l) + 1 {
		var d api.Disk
		for i, b := range l {
			d, _ = Append(d, b)
			if i == synced-1 {
				d, _ = Sync(d)
			}
		}
		// Batch 2 begins a segment, so batch 1 is for good in any case.
		least := max(1, synced)
		for keep := range api.MaxSegment + 2 {
			c, no := Crash(d, keep)
			n := least
			for n < len(l) && size(l[least:n+1]) <= keep {
				n++
			}
			if no != api.OK {
				t.Fatalf("Crash(%x, %d): %d", d, keep, no)
			}
			checkOpenedAs(t, c, l[:n])
			// Another crash changes nothing more, if as much is kept.
			if again, no := Crash(c, keep); no != api.OK || !same(again, c) {
				t.Fatalf("Crash(%x, %d): %x %d", c, keep, again, no)
			}
		}
	}
}

// refCheck: what is wrong with a disk, another way: by how the bytes of batches that were decoded are encoded again.
func refCheck(d api.Disk) api.Errno {
	if len(d.Segments) > 8 {
		return api.ErrMany
	}
	for _, s := range d.Segments {
		if len(s) > 400 {
			return api.ErrMany
		}
	}
	good := d.Synced == 0
	for i, s := range d.Segments {
		passed := 0
		for s != "" {
			b, n, no := batch.Decode(s)
			if no == api.ErrNone && i == len(d.Segments)-1 {
				break
			}
			if no == api.ErrNone {
				return api.ErrState
			}
			if no != api.OK {
				return no
			}
			one, _ := batch.Encode(b)
			s, passed = strings.TrimPrefix(s, one), passed+n
			good = good || i == len(d.Segments)-1 && passed == d.Synced
		}
	}
	if !good {
		return api.ErrRange
	}
	return api.OK
}

// TestP1WhateverItIsHanded ends, and answers nothing beside an error; what it answers beside OK is right.
func TestP1WhateverItIsHanded(t *testing.T) {
	r := rand.New(rand.NewSource(32))
	odd := []int{math.MinInt, -1, 0, 0, 0, 1, 9, 11, 20, 399, 400, 401, math.MaxInt}
	met := map[api.Errno]int{}
	for range 30000 {
		d := api.Disk{Synced: odd[r.Intn(len(odd))]}
		for range r.Intn(1 + r.Intn(10)) {
			d.Segments = append(d.Segments, randomSegment(r))
		}
		if n := len(d.Segments); n > 0 && r.Intn(2) == 0 {
			d.Synced = r.Intn(len(d.Segments[n-1]) + 2)
		}
		want := refCheck(d)
		met[want]++
		if want != api.OK {
			checkWrong(t, d, want)
		} else {
			checkRight(t, d, odd[r.Intn(len(odd))])
		}
		if t.Failed() {
			t.FailNow()
		}
	}
	for _, no := range []api.Errno{api.OK, api.ErrForm, api.ErrMany, api.ErrRange, api.ErrState} {
		if met[no] < 100 {
			t.Errorf("%d disks answered %d", met[no], no)
		}
	}
}

// randomSegment: mostly bytes of batches, now and then with something wrong.
func randomSegment(r *rand.Rand) string {
	var b []byte
	for range r.Intn(4) {
		one, _ := batch.Encode(sized(1+r.Intn(3), 11+r.Intn(3)))
		b = append(b, one...)
	}
	switch r.Intn(20) {
	case 0:
		b = append(b, byte(r.Intn(2)), byte(r.Intn(9)), byte(r.Intn(2)))
	case 1:
		if len(b) > 0 {
			b[r.Intn(len(b))] = byte(r.Intn(256))
		}
	case 2:
		b = b[:r.Intn(len(b)+1)]
	case 3:
		b = append(b, make([]byte, r.Intn(500))...)
	}
	return string(b)
}

// checkRight: what the calls answer of a disk that is right is right too.
func checkRight(t *testing.T, d api.Disk, keep int) {
	t.Helper()
	if no := Check(d); no != api.OK {
		t.Fatalf("Check(%x): %d", d, no)
	}
	l, whole, no := Open(d)
	if no != api.OK {
		t.Fatalf("Open(%x): %d", d, no)
	}
	torn := !slices.Equal(d.Segments, whole.Segments)
	synced, syncNo := Sync(d)
	put, putNo := Append(d, sized(9, 11))
	switch {
	case torn:
		checkDisk(t, "Sync", synced, syncNo, api.Disk{}, api.ErrState)
		checkDisk(t, "Append", put, putNo, api.Disk{}, api.ErrState)
	default:
		checkDisk(t, "Sync", synced, syncNo, whole, api.OK)
		if putNo != api.OK && putNo != api.ErrMany || putNo == api.OK && Check(put) != api.OK {
			t.Fatalf("Append(%x): %x %d", d, put, putNo)
		}
	}
	if putNo == api.OK {
		checkOpenedAs(t, put, append(slices.Clone(l), sized(9, 11)))
	}
	c, no := Crash(d, keep)
	if keep < 0 && (no != api.ErrRange || !nothing(c)) || keep >= 0 && (no != api.OK || Check(c) != api.OK || c.Synced != d.Synced) {
		t.Fatalf("Crash(%x, %d): %x %d", d, keep, c, no)
	}
}
