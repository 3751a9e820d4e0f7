package desk

import (
	"fmt"
	"math"
	"math/rand"
	"slices"
	"strings"
	"testing"

	"halyard/api"
	"halyard/batch"
	"halyard/change"
	"halyard/disk"
	"halyard/exec"
	"halyard/json"
	"halyard/query"
	"halyard/state"
)

func pick(r *rand.Rand, l ...string) string { return l[r.Intn(len(l))] }

// randomSelect of a change, as a text.
func randomSelect(r *rand.Rand, alias int) string {
	of, id, to := pick(r, "A", "A", "A", "B"), 1+r.Intn(4), 1+r.Intn(4)
	form := pick(r, `make(type:%q id:%d)`, `make(type:%q id:%d)`, `drop(type:%q id:%d)`, `set(type:%q id:%d field:"n" number:%d)`, `set(type:%q id:%d field:"t" text:"%d")`, `link(type:%q id:%d field:"l" to:%d)`, `link(type:%q id:%d field:"b" to:%d)`, `cut(type:%q id:%d field:"l" to:%d)`)
	if strings.Count(form, "%") == 2 {
		return fmt.Sprintf("x%d:"+form, alias, of, id)
	}
	return fmt.Sprintf("x%d:"+form, alias, of, id, to)
}

// randomText of a change, now and then of something else.
func randomText(r *rand.Rand) string {
	if r.Intn(20) == 0 {
		return pick(r, "", "{", "{A{id}}", "?")
	}
	text := "{"
	for i := range 1 + r.Intn(1+r.Intn(4)) {
		text += randomSelect(r, i) + " "
	}
	return text + "}"
}

// likelyText of a change: mostly one that can be done.
func likelyText(r *rand.Rand, s api.State) string {
	text := randomText(r)
	for range r.Intn(12) {
		l, _ := query.Read(text)
		if _, _, no := change.Do(s, l); no == api.OK {
			break
		}
		text = randomText(r)
	}
	return text
}

// questions that are asked of each time.
func questions() []string {
	return []string{`{A{id n t b{id m} l{id}} B{id m}}`, `{one:A(id:1){l(first:1){id l{n}}}}`, `{B(id:2){m}}`}
}

// asked of each time: what is answered.
func asked(t *testing.T, d api.Disk) [][]string {
	t.Helper()
	_, l, no := Open(kinds(), d)
	if no != api.OK {
		t.Fatalf("Open(%x): %d", d, no)
	}
	var answers [][]string
	for at := range len(l) + 1 {
		var row []string
		for _, text := range questions() {
			s, no := Ask(kinds(), d, text, at)
			if no != api.OK {
				t.Fatalf("Ask(%x, %s, %d): %d", d, text, at, no)
			}
			row = append(row, s)
		}
		answers = append(answers, row)
	}
	return answers
}

// checkStill: what was answered of the times that were is answered the same.
func checkStill(t *testing.T, d api.Disk, was [][]string) {
	t.Helper()
	is := asked(t, d)
	if len(is) < len(was) || !slices.EqualFunc(is[:len(was)], was, slices.Equal) {
		t.Fatalf("of %x it is %q, and was %q", d, is, was)
	}
}

// halfway: the disks that a crash may leave while a change is done, from one that is Synced to one that has a batch more; at last the one that is whole, but not Synced.
func halfway(t *testing.T, d, behind api.Disk) []api.Disk {
	t.Helper()
	_, l, _ := Open(kinds(), behind)
	put, no := disk.Append(d, l[len(l)-1])
	if no != api.OK {
		t.Fatalf("Append(%x): %d", d, no)
	}
	var crashed []api.Disk
	for keep := range len(put.Segments[len(put.Segments)-1]) - put.Synced + 1 {
		c, no := disk.Crash(put, keep)
		if no != api.OK {
			t.Fatalf("Crash(%x, %d): %d", put, keep, no)
		}
		crashed = append(crashed, c)
	}
	return crashed
}

// TestL3ForEver: what was asked of a time is answered the same for ever, whatever changes come, and whatever crashes; and a change that comes again is done once.
func TestL3ForEver(t *testing.T) {
	r := rand.New(rand.NewSource(33))
	done, refused, full := 0, 0, 0
	for range 6 {
		var d api.Disk
		was := asked(t, d)
		for number := 1; number < 40; number++ {
			s, _, _ := Open(kinds(), d)
			text := likelyText(r, s)
			next, no := Change(kinds(), d, number, text)
			if no != api.OK {
				refused++
				if len(was)-1 == api.MaxBatches && no == api.ErrMany {
					full++
				}
				checkStill(t, d, was)
				continue
			}
			done++
			checkStill(t, next, was)
			for _, c := range halfway(t, d, next) {
				checkStill(t, c, was)
				// It comes again, since nobody was told that it was done.
				checkChange(t, c, number, text, next, api.OK)
			}
			d = next
			was = asked(t, d)
			if len(was)-1 > number {
				t.Fatalf("%d batches of %d changes", len(was)-1, number)
			}
			checkAgain(t, r, d, number)
		}
	}
	if done < 80 || refused < 40 || full < 5 {
		t.Errorf("%d were done, %d were not, %d for want of room", done, refused, full)
	}
}

// checkAgain: changes that come again are not done again, whether a crash was between or not.
func checkAgain(t *testing.T, r *rand.Rand, d api.Disk, number int) {
	t.Helper()
	checkChange(t, d, number, randomText(r), d, api.OK)
	c, no := disk.Crash(d, r.Intn(20))
	if no != api.OK || !sameDisk(c, d) {
		t.Fatalf("Crash(%x): %x %d", d, c, no)
	}
	_, l, _ := Open(kinds(), d)
	checkChange(t, c, l[r.Intn(len(l))].Number, randomText(r), d, api.OK)
	if t.Failed() {
		t.FailNow()
	}
}

// TestL1L2AgainstAnotherWay: random changes, done one by one to a state that no disk holds, beside a list of batches.
func TestL1L2AgainstAnotherWay(t *testing.T) {
	r := rand.New(rand.NewSource(34))
	met := map[api.Errno]int{}
	for range 60 {
		var d api.Disk
		var l []api.Batch
		states := []api.State{{Types: kinds()}}
		for range 40 {
			last := states[len(states)-1]
			number, text := r.Intn(80), likelyText(r, last)
			s, events, want := refChange(last, l, number, text)
			met[want]++
			if len(events) > 0 {
				l, states = append(l, api.Batch{Number: number, Events: events}), append(states, s)
			}
			next, no := Change(kinds(), d, number, text)
			if no != want {
				t.Fatalf("Change(%x, %d, %s): %d, not %d", d, number, text, no, want)
			}
			if no == api.OK {
				d = next
			}
			checkHolds(t, d, l, states)
		}
	}
	for _, no := range []api.Errno{api.OK, api.ErrForm, api.ErrMany, api.ErrRange, api.ErrState, api.ErrNone, api.ErrTwice} {
		if met[no] < 5 {
			t.Errorf("%d changes answered %d", met[no], no)
		}
	}
}

// refChange: the state behind a change, and its events, if it is to be done.
func refChange(s api.State, l []api.Batch, number int, text string) (api.State, []api.Event, api.Errno) {
	if number == 0 {
		return api.State{}, nil, api.ErrRange
	}
	for _, b := range l {
		if b.Number == number {
			return api.State{}, nil, api.OK
		}
	}
	selects, no := query.Read(text)
	if no != api.OK {
		return api.State{}, nil, no
	}
	behind, events, no := change.Do(s, selects)
	if no == api.OK && len(l) == api.MaxBatches {
		return api.State{}, nil, api.ErrMany
	}
	return behind, events, no
}

// checkHolds: a disk holds batches, all of them Synced, and tells the states behind each of them.
func checkHolds(t *testing.T, d api.Disk, l []api.Batch, states []api.State) {
	t.Helper()
	s, got, no := Open(kinds(), d)
	if no != api.OK || !sameBatches(got, l) || !sameState(s, states[len(l)]) {
		t.Fatalf("Open(%x): %v %v %d, not %v %v", d, s, got, no, states[len(l)], l)
	}
	all := ""
	for _, b := range l {
		one, _ := batch.Encode(b)
		all += one
	}
	if strings.Join(d.Segments, "") != all || len(d.Segments) > 0 && d.Synced != len(d.Segments[len(d.Segments)-1]) {
		t.Fatalf("it is %x, and must hold %x", d, all)
	}
	at := len(l) / 2
	for _, text := range questions() {
		selects, _ := query.Read(text)
		want, no := exec.Query(states[at], selects)
		if no != api.OK {
			t.Fatalf("Query(%v, %s): %d", states[at], text, no)
		}
		answer, no := Ask(kinds(), d, text, at)
		if out, readNo := json.Read(answer); no != api.OK || readNo != api.OK || fmt.Sprint(out) != fmt.Sprint(want) {
			t.Fatalf("Ask(%x, %s, %d): %s %d, not %v", d, text, at, answer, no, want)
		}
	}
}

// TestP1WhateverItIsHanded ends, and answers nothing beside an error; what it answers beside OK is right.
func TestP1WhateverItIsHanded(t *testing.T) {
	r := rand.New(rand.NewSource(35))
	odd := []int{math.MinInt, -1, 0, 1, 2, 3, 65535, 65536, math.MaxInt}
	number := func() int { return odd[r.Intn(len(odd))] }
	opened := 0
	for range 20000 {
		types, d := kinds()[:2-r.Intn(10)/9], randomDisk(r)
		if r.Intn(10) == 0 {
			types[0].Name = pick(r, "", "B", "Number")
		}
		if r.Intn(10) == 0 {
			d.Synced = number()
		}
		s, l, no := Open(types, d)
		if no == api.OK && state.Check(s) != api.OK || no != api.OK && (len(s.Types)+len(s.Things)+len(l) > 0) {
			t.Fatalf("Open(%v, %x): %v %v %d", types, d, s, l, no)
		}
		answer, askNo := Ask(types, d, pick(r, randomText(r), questions()[0]), number())
		if no != api.OK && askNo != no || (answer == "") != (askNo != api.OK) {
			t.Fatalf("Ask(%v, %x): %s %d, but Open: %d", types, d, answer, askNo, no)
		}
		next, changeNo := Change(types, d, number(), randomText(r))
		switch {
		case no != api.OK && changeNo != no, changeNo != api.OK && (len(next.Segments) > 0 || next.Synced != 0):
			t.Fatalf("Change(%v, %x): %x %d, but Open: %d", types, d, next, changeNo, no)
		case changeNo == api.OK:
			opened++
			if _, more, no := Open(types, next); no != api.OK || len(more) > len(l)+1 || !sameBatches(more[:len(l)], l) {
				t.Fatalf("Change(%v, %x): %x, opened %v %d", types, d, next, more, no)
			}
		}
	}
	if opened < 500 {
		t.Errorf("only %d disks were changed", opened)
	}
}

// randomDisk: mostly of batches that can be opened, now and then with bytes that are others.
func randomDisk(r *rand.Rand) api.Disk {
	var d api.Disk
	for range r.Intn(5) {
		b := of(1+r.Intn(30), makes(1+r.Intn(9)))
		if r.Intn(3) == 0 {
			b.Events = append(b.Events, number(b.Events[0].Id, r.Intn(9)))
		}
		d, _ = disk.Append(d, b)
	}
	if len(d.Segments) > 0 && r.Intn(3) == 0 {
		bytes := []byte(d.Segments[0])
		bytes[r.Intn(len(bytes))] = byte(r.Intn(1 + r.Intn(256)))
		d.Segments[0] = string(bytes[:len(bytes)-r.Intn(3)])
	}
	return d
}
