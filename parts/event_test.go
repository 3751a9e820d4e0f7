package parts

import (
	"math"
	"testing"

	"halyard/api"
)

func TestWrongShape(t *testing.T) {
	long := string(make([]byte, api.MaxWords+1))
	for _, c := range []struct {
		e    api.Event
		want api.Errno
	}{
		// Whatever is named may be anything.
		{api.Event{Kind: api.EventMake}, api.OK}, {api.Event{Kind: api.EventMake, Type: -1, Id: math.MaxInt}, api.OK},
		{api.Event{Kind: api.EventDrop, Type: math.MinInt, Id: -1}, api.OK},
		{api.Event{Kind: api.EventNumber, Type: 9, Id: 9, Field: -9, N: math.MinInt}, api.OK},
		{api.Event{Kind: api.EventText, Type: 9, Id: 9, Field: 99, Text: long}, api.OK},
		{api.Event{Kind: api.EventLink, Field: 99, N: -1}, api.OK}, {api.Event{Kind: api.EventCut, Field: 99, N: -1}, api.OK},
		// Kinds, ahead of all else.
		{api.Event{}, api.ErrKind}, {api.Event{Kind: 7, N: 1, Text: "x"}, api.ErrKind}, {api.Event{Kind: -1}, api.ErrKind}, {api.Event{Kind: math.MaxInt}, api.ErrKind},
		// What is not named.
		{api.Event{Kind: api.EventMake, Field: 1}, api.ErrForm}, {api.Event{Kind: api.EventMake, N: 1}, api.ErrForm}, {api.Event{Kind: api.EventMake, Text: "x"}, api.ErrForm},
		{api.Event{Kind: api.EventDrop, Field: -1}, api.ErrForm}, {api.Event{Kind: api.EventDrop, N: -1}, api.ErrForm}, {api.Event{Kind: api.EventDrop, Text: "\x00"}, api.ErrForm},
		{api.Event{Kind: api.EventNumber, Text: "x"}, api.ErrForm}, {api.Event{Kind: api.EventText, N: 1}, api.ErrForm},
		{api.Event{Kind: api.EventLink, Text: "x"}, api.ErrForm}, {api.Event{Kind: api.EventCut, Text: "x"}, api.ErrForm},
	} {
		if no := WrongShape(c.e); no != c.want {
			t.Errorf("WrongShape(%v): %d, not %d", c.e, no, c.want)
		}
	}
}

func TestRanges(t *testing.T) {
	for _, c := range []struct {
		what string
		got  bool
		want bool
	}{
		{"index -1 of 2", IsIndex(-1, 2), false}, {"index 0 of 2", IsIndex(0, 2), true}, {"index 1 of 2", IsIndex(1, 2), true}, {"index 2 of 2", IsIndex(2, 2), false}, {"index 0 of 0", IsIndex(0, 0), false},
		{"id 0", IsId(0), false}, {"id 1", IsId(1), true}, {"id 999", IsId(999), true}, {"id 1000", IsId(1000), false}, {"least id", IsId(math.MinInt), false},
		{"int 0", IsInt(0), true}, {"int 999999999", IsInt(999999999), true}, {"int 1000000000", IsInt(1000000000), false},
		{"int -999999999", IsInt(-999999999), true}, {"int -1000000000", IsInt(-1000000000), false}, {"greatest int", IsInt(math.MaxInt), false}, {"least int", IsInt(math.MinInt), false},
	} {
		if c.got != c.want {
			t.Errorf("%s: %v", c.what, c.got)
		}
	}
}

func TestFirst(t *testing.T) {
	above := func(n int) func(int) bool { return func(e int) bool { return e > n } }
	for _, c := range []struct {
		n, want int
		there   bool
	}{{0, 3, true}, {3, 5, true}, {4, 5, true}, {5, 0, false}} {
		if e, there := First([]int{3, 1, 5, 4}, above(c.n)); e != c.want || there != c.there {
			t.Errorf("First above %d: %d %v", c.n, e, there)
		}
	}
	if e, there := First(nil, above(0)); e != 0 || there {
		t.Errorf("First of none: %d %v", e, there)
	}
}
