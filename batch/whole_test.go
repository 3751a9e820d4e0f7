package batch

import (
	"math"
	"math/rand"
	"slices"
	"strings"
	"testing"

	"halyard/api"
)

func randomText(r *rand.Rand) string {
	b := make([]byte, r.Intn(1+r.Intn(api.MaxWords+1)))
	for i := range b {
		b[i] = byte(r.Intn(256))
	}
	return string(b)
}

// randomBatch that Check takes.
func randomBatch(r *rand.Rand) api.Batch {
	b := api.Batch{Number: 1 + r.Intn(api.MaxNumber)}
	for range 1 + r.Intn(api.MaxEvents) {
		e := api.Event{Kind: 1 + r.Intn(6), Type: r.Intn(api.MaxTypes), Id: 1 + r.Intn(api.MaxId)}
		switch e.Kind {
		case api.EventNumber, api.EventLink, api.EventCut:
			e.Field, e.N = r.Intn(api.MaxFields), (r.Intn(2*api.MaxInt+1)-api.MaxInt)/[]int{1, 1000, 100000000}[r.Intn(3)]
		case api.EventText:
			e.Field, e.Text = r.Intn(api.MaxFields), randomText(r)
		}
		b.Events = append(b.Events, e)
	}
	return b
}

// TestJ3WhatIsEncodedIsDecodedAsItWas, one behind the other too.
func TestJ3WhatIsEncodedIsDecodedAsItWas(t *testing.T) {
	r := rand.New(rand.NewSource(23))
	for range 3000 {
		var l []api.Batch
		row := ""
		for range 1 + r.Intn(5) {
			b := randomBatch(r)
			s, no := Encode(b)
			if no != api.OK {
				t.Fatalf("Encode(%v): %d", b, no)
			}
			l, row = append(l, b), row+s
		}
		for _, want := range l {
			b, n, no := Decode(row)
			if no != api.OK || !same(b, want) {
				t.Fatalf("Decode(%x): %v %d, not %v", row, b, no, want)
			}
			row = row[n:]
		}
		checkNone(t, row, api.ErrNone)
	}
}

// TestJ3NoBytesAreTheBeginningOfOthers: sorted, a beginning would stand right ahead of what goes on.
func TestJ3NoBytesAreTheBeginningOfOthers(t *testing.T) {
	r := rand.New(rand.NewSource(24))
	var l []string
	add := func(b api.Batch) {
		s, no := Encode(b)
		if no != api.OK {
			t.Fatalf("Encode(%v): %d", b, no)
		}
		l = append(l, s)
	}
	for range 3000 {
		b := randomBatch(r)
		for n := range b.Events {
			add(api.Batch{Number: b.Number, Events: b.Events[:n+1]})
		}
		for i, e := range b.Events {
			if e.Text != "" {
				less := slices.Clone(b.Events)
				less[i].Text = e.Text[:len(e.Text)-1]
				add(api.Batch{Number: b.Number, Events: less})
			}
		}
	}
	slices.Sort(l)
	l = slices.Compact(l)
	for i := 1; i < len(l); i++ {
		if strings.HasPrefix(l[i], l[i-1]) {
			t.Fatalf("%x is the beginning of %x", l[i-1], l[i])
		}
	}
}

// checkDecodedJustSo: what is decoded is encoded as it was; beside an error nothing is. It answers how many were decoded.
func checkDecodedJustSo(t *testing.T, s string) int {
	t.Helper()
	b, n, no := Decode(s)
	if no != api.OK {
		checkNone(t, s, no)
		if t.Failed() {
			t.FailNow()
		}
		return 0
	}
	if again, no := Encode(b); no != api.OK || again != s[:n] {
		t.Fatalf("Decode(%x): %v %d, which is encoded %x %d", s, b, n, again, no)
	}
	return 1
}

// TestJ2J3ChangedBytes: with a byte more, or less, or another one, they are a batch's just so, or none's.
func TestJ2J3ChangedBytes(t *testing.T) {
	r := rand.New(rand.NewSource(25))
	decoded := 0
	for range 20000 {
		s, _ := Encode(randomBatch(r))
		b := []byte(s)
		for range 1 + r.Intn(2) {
			i, c := r.Intn(len(b)), byte(r.Intn(1+r.Intn(256)))
			switch r.Intn(4) {
			case 0:
				b = slices.Insert(b, i, c)
			case 1:
				b = slices.Delete(b, i, i+1)
			default:
				b[i] = c
			}
		}
		decoded += checkDecodedJustSo(t, string(b))
	}
	if decoded < 1000 {
		t.Errorf("only %d were decoded", decoded)
	}
}

// TestP1WhateverItIsHanded ends, and answers nothing beside an error.
func TestP1WhateverItIsHanded(t *testing.T) {
	r := rand.New(rand.NewSource(26))
	odd := []int{math.MinInt, -1 << 32, -1, 0, 1, 2, 5, 6, 256, 999, 1000, 1 << 32, math.MaxInt}
	number := func() int { return odd[r.Intn(len(odd))] }
	for range 20000 {
		s := make([]byte, r.Intn(20))
		for i := range s {
			s[i] = []byte{0, 0, 1, 1, 4, byte(r.Intn(8)), byte(r.Intn(256))}[r.Intn(7)]
		}
		checkDecodedJustSo(t, string(s))
		b := randomBatch(r)
		b.Events[0] = api.Event{Kind: r.Intn(8), Type: number(), Id: number(), Field: number(), N: number(), Text: randomText(r)}
		if r.Intn(4) == 0 {
			b.Number = number()
		}
		want := Check(b)
		if s, no := Encode(b); no != want || (s == "") != (no != api.OK) {
			t.Fatalf("Encode(%v): %x %d, not %d", b, s, no, want)
		}
	}
	checkNone(t, strings.Repeat("\xff", 1<<16), api.ErrNone)
	checkNone(t, strings.Repeat("\xff", 1<<16+1), api.ErrForm)
}
