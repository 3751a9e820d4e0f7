package exec

import (
	"math"
	"slices"
	"strings"
	"testing"

	"halyard/api"
)

func none() api.Out             { return api.Out{Kind: api.OutNone} }
func number(n int) api.Out      { return api.Out{Kind: api.OutNumber, N: n} }
func words(s string) api.Out    { return api.Out{Kind: api.OutText, Text: s} }
func list(l ...api.Out) api.Out { return api.Out{Kind: api.OutList, List: l} }

// keyed: a map of those keys, each with none.
func keyed(keys ...string) api.Out {
	return api.Out{Kind: api.OutMap, Keys: keys, List: slices.Repeat([]api.Out{none()}, len(keys))}
}

// shown: an out, but not what is in it, as it may hold itself.
func shown(o api.Out) api.Out {
	o.List = nil
	return o
}

func checkCheck(t *testing.T, o api.Out, want api.Errno) {
	t.Helper()
	if no := Check(o); no != want {
		t.Errorf("Check(%v): %d, not %d", shown(o), no, want)
	}
}

// TestG2Check of outs by themselves, in a list, and in a map.
func TestG2Check(t *testing.T) {
	full, long := strings.Repeat("w", api.MaxWords), strings.Repeat("n", api.MaxName+1)
	for _, c := range []struct {
		o    api.Out
		want api.Errno
	}{
		{none(), api.OK}, {number(0), api.OK}, {number(-5), api.OK}, {words(""), api.OK}, {words("\x00\"\xff"), api.OK},
		{list(), api.OK}, {list(none(), number(1), words("w"), list(), keyed()), api.OK},
		{keyed(), api.OK}, {keyed("a"), api.OK}, {keyed("a", "A", "_", "a1"), api.OK}, {keyed(long[1:]), api.OK},
		{api.Out{Kind: api.OutMap, Keys: []string{}, List: []api.Out{}}, api.OK},
		// Kinds.
		{api.Out{}, api.ErrKind}, {api.Out{Kind: 6}, api.ErrKind}, {api.Out{Kind: -1}, api.ErrKind}, {api.Out{Kind: math.MaxInt, N: 1}, api.ErrKind},
		{api.Out{Kind: 0, Text: "x", Keys: []string{""}}, api.ErrKind},
		// What a kind does not name.
		{api.Out{Kind: api.OutNone, N: 1}, api.ErrForm}, {api.Out{Kind: api.OutNone, Text: "x"}, api.ErrForm},
		{api.Out{Kind: api.OutNone, Keys: []string{"a"}}, api.ErrForm}, {api.Out{Kind: api.OutNone, List: []api.Out{none()}}, api.ErrForm},
		{api.Out{Kind: api.OutNumber, Text: "x"}, api.ErrForm}, {api.Out{Kind: api.OutNumber, Keys: []string{"a"}}, api.ErrForm},
		{api.Out{Kind: api.OutNumber, List: []api.Out{none()}}, api.ErrForm}, {api.Out{Kind: api.OutNumber, N: math.MinInt, Text: "x"}, api.ErrForm},
		{api.Out{Kind: api.OutText, N: -1}, api.ErrForm}, {api.Out{Kind: api.OutText, Keys: []string{"a"}}, api.ErrForm},
		{api.Out{Kind: api.OutText, List: []api.Out{none()}}, api.ErrForm}, {api.Out{Kind: api.OutText, Text: full + "w", N: 1}, api.ErrForm},
		{api.Out{Kind: api.OutList, N: 1}, api.ErrForm}, {api.Out{Kind: api.OutList, Text: "x"}, api.ErrForm},
		{api.Out{Kind: api.OutList, Keys: []string{"a"}, List: []api.Out{none()}}, api.ErrForm}, {api.Out{Kind: api.OutList, N: math.MaxInt}, api.ErrForm},
		{api.Out{Kind: api.OutMap, N: 1}, api.ErrForm}, {api.Out{Kind: api.OutMap, Text: full + "w"}, api.ErrForm},
		// Numbers and texts.
		{number(api.MaxInt), api.OK}, {number(-api.MaxInt), api.OK}, {number(api.MaxInt + 1), api.ErrRange}, {number(-api.MaxInt - 1), api.ErrRange},
		{number(math.MaxInt), api.ErrRange}, {number(math.MinInt), api.ErrRange},
		{words(full), api.OK}, {words(full + "w"), api.ErrMany},
		// Keys: as many as outs, then one by one.
		{api.Out{Kind: api.OutMap, Keys: []string{"a"}}, api.ErrForm}, {api.Out{Kind: api.OutMap, List: []api.Out{none()}}, api.ErrForm},
		{api.Out{Kind: api.OutMap, Keys: []string{long, "b"}, List: []api.Out{none()}}, api.ErrForm},
		{api.Out{Kind: api.OutMap, Keys: []string{"a", "a"}, List: []api.Out{none()}}, api.ErrForm},
		{keyed(""), api.ErrForm}, {keyed("1"), api.ErrForm}, {keyed("a b"), api.ErrForm}, {keyed("a", "\xff"), api.ErrForm},
		{keyed(long), api.ErrMany}, {keyed(strings.Repeat("$", api.MaxName+1)), api.ErrMany},
		{keyed("a", "a"), api.ErrTwice}, {keyed("a", "b", "a"), api.ErrTwice},
		{keyed("a", "a", "1"), api.ErrTwice}, {keyed("a", "1", "a"), api.ErrForm}, {keyed("a", long, "a"), api.ErrMany}, {keyed("", long), api.ErrForm},
		{keyed("1", "1"), api.ErrForm}, {keyed(long, long), api.ErrMany},
	} {
		checkCheck(t, c.o, c.want)
		checkCheck(t, list(number(1), c.o, words("w")), c.want)
		checkCheck(t, api.Out{Kind: api.OutMap, Keys: []string{"a", "b"}, List: []api.Out{list(), c.o}}, c.want)
	}
}

// TestG2OutByOut: the first one that something is wrong with tells, each ahead of what is in it, and that ahead of the one beside it.
func TestG2OutByOut(t *testing.T) {
	kind, form, rang, many := api.Out{}, api.Out{Kind: api.OutNone, N: 1}, number(api.MaxInt+1), words(strings.Repeat("w", api.MaxWords+1))
	twice := keyed("a", "a")
	twice.List[0] = kind
	for _, c := range []struct {
		o    api.Out
		want api.Errno
	}{
		{list(kind, rang), api.ErrKind}, {list(rang, kind), api.ErrRange}, {list(form, many), api.ErrForm}, {list(many, form), api.ErrMany},
		{list(list(rang), kind), api.ErrRange}, {list(kind, list(rang)), api.ErrKind}, {list(list(list(many)), rang), api.ErrMany},
		{api.Out{Kind: api.OutList, N: 1, List: []api.Out{kind}}, api.ErrForm}, {twice, api.ErrTwice},
		{api.Out{Kind: api.OutMap, Keys: []string{"a"}, List: []api.Out{rang, kind}}, api.ErrForm},
		{api.Out{Kind: api.OutMap, Keys: []string{"a", "b"}, List: []api.Out{rang, kind}}, api.ErrRange},
		{api.Out{Kind: api.OutMap, Keys: []string{"a", "1"}, List: []api.Out{rang, kind}}, api.ErrForm},
		{api.Out{Kind: api.OutMap, Keys: []string{"a", "b"}, List: []api.Out{keyed("x", "x"), kind}}, api.ErrTwice},
		{api.Out{Kind: 9, List: []api.Out{rang}}, api.ErrKind}, {api.Out{Kind: api.OutText, List: []api.Out{rang}}, api.ErrForm},
		{list(keyed("a"), keyed("a"), keyed("a")), api.OK},
	} {
		checkCheck(t, c.o, c.want)
	}
}

// nested: an out that is so deep, the innermost one by itself at 1.
func nested(o api.Out, depth int) api.Out {
	for range depth - 1 {
		o = list(o)
	}
	return o
}

// TestG2Limits go ahead of all else, whatever kind has the outs.
func TestG2Limits(t *testing.T) {
	deepest := 2*api.MaxDepth + 1
	checkCheck(t, nested(none(), deepest), api.OK)
	checkCheck(t, nested(none(), deepest+1), api.ErrMany)
	checkCheck(t, nested(api.Out{}, deepest), api.ErrKind)
	checkCheck(t, nested(api.Out{}, deepest+1), api.ErrMany)
	checkCheck(t, nested(none(), 1<<16), api.ErrMany)
	checkCheck(t, list(api.Out{}, nested(none(), deepest)), api.ErrMany)
	checkCheck(t, api.Out{Kind: 9, N: 1, List: []api.Out{nested(none(), deepest)}}, api.ErrMany)
	full := slices.Repeat([]api.Out{none()}, api.MaxText-1)
	checkCheck(t, list(full...), api.OK)
	checkCheck(t, list(append(full, none())...), api.ErrMany)
	checkCheck(t, list(list(full[:999]...), list(full[:998]...)), api.OK)
	checkCheck(t, list(list(full[:999]...), list(full[:999]...)), api.ErrMany)
	checkCheck(t, list(make([]api.Out, api.MaxText-1)...), api.ErrKind)
	checkCheck(t, list(make([]api.Out, api.MaxText)...), api.ErrMany)
	checkCheck(t, api.Out{Kind: api.OutText, List: full}, api.ErrForm)
	checkCheck(t, api.Out{Kind: api.OutText, List: append(full, none())}, api.ErrMany)
	checkCheck(t, api.Out{Kind: api.OutMap, Keys: make([]string, api.MaxText)}, api.ErrForm)
}

// TestP1OutsThatHoldThemselves come to an end.
func TestP1OutsThatHoldThemselves(t *testing.T) {
	for _, n := range []int{1, 2, 50} {
		o := list(slices.Repeat([]api.Out{list()}, n)...)
		for i := range o.List {
			o.List[i].List = o.List
		}
		checkCheck(t, o, api.ErrMany)
	}
}
