package query

import (
	"reflect"
	"slices"
	"strconv"
	"strings"
	"testing"

	"halyard/api"
)

func named(names ...string) []api.Select {
	var l []api.Select
	for _, n := range names {
		l = append(l, api.Select{Name: n})
	}
	return l
}

// with one select, of args.
func with(args ...api.Arg) []api.Select {
	return []api.Select{{Name: "a", Args: args}}
}

// numbered: n selects, each called otherwise.
func numbered(n int) []api.Select {
	var l []api.Select
	for i := range n {
		l = append(l, api.Select{Name: "n" + strconv.Itoa(i)})
	}
	return l
}

// nested: a select in a select, depth of them.
func nested(depth int) []api.Select {
	var l []api.Select
	for range depth {
		l = []api.Select{{Name: "a", Kids: l}}
	}
	return l
}

// plain: empty lists are as good as none.
func plain(l []api.Select) []api.Select {
	var out []api.Select
	for _, s := range l {
		s.Args, s.Kids = append([]api.Arg(nil), s.Args...), plain(s.Kids)
		out = append(out, s)
	}
	return out
}

func checkRead(t *testing.T, s string, want []api.Select, wantNo api.Errno) {
	t.Helper()
	got, no := Read(s)
	if no != wantNo || !reflect.DeepEqual(plain(got), plain(want)) {
		t.Errorf("Read(%.80q): %v %d, not %v %d", s, got, no, want, wantNo)
	}
}

func TestB1ReadsQueries(t *testing.T) {
	one := api.Arg{Name: "i", N: 1}
	text := api.Arg{Name: "j", IsText: true, Text: "t"}
	for _, c := range []struct {
		s    string
		want []api.Select
	}{
		{"{a}", named("a")},
		{"{a b,c # d\n}", named("a", "b", "c")},
		{"{x:a}", []api.Select{{Alias: "x", Name: "a"}}},
		{"{a:a}", []api.Select{{Alias: "a", Name: "a"}}},
		{"{a b:c d}", []api.Select{{Name: "a"}, {Alias: "b", Name: "c"}, {Name: "d"}}},
		{"{a(i:1)}", with(one)},
		{`{a(i:1 j:"t")}`, with(one, text)},
		{`{a(j:"t",i:1)}`, with(text, one)},
		{`{a(i:-5 j:0 k:"")}`, with(api.Arg{Name: "i", N: -5}, api.Arg{Name: "j"}, api.Arg{Name: "k", IsText: true})},
		{"{a{b}}", []api.Select{{Name: "a", Kids: named("b")}}},
		{"{a{b c}d}", []api.Select{{Name: "a", Kids: named("b", "c")}, {Name: "d"}}},
		{"{a(i:1){b}}", []api.Select{{Name: "a", Args: []api.Arg{one}, Kids: named("b")}}},
		{"{x:a(i:1){y:b(i:1){c}}}", []api.Select{{Alias: "x", Name: "a", Args: []api.Arg{one}, Kids: []api.Select{
			{Alias: "y", Name: "b", Args: []api.Arg{one}, Kids: named("c")}}}}},
		{"{a{a{a}}}", nested(3)},
	} {
		checkRead(t, c.s, c.want, api.OK)
	}
}

func TestB1ReadErrors(t *testing.T) {
	many := strings.Repeat
	for _, c := range []struct {
		s    string
		want api.Errno
	}{
		{"", api.ErrForm}, {"# nothing", api.ErrForm}, {"a", api.ErrForm}, {"{", api.ErrForm}, {"{}", api.ErrForm},
		{"{a", api.ErrForm}, {"a}", api.ErrForm}, {"{a}}", api.ErrForm}, {"{a} b", api.ErrForm}, {"{a}{b}", api.ErrForm},
		{"{{a}}", api.ErrForm}, {"{1}", api.ErrForm}, {`{"a"}`, api.ErrForm}, {"[a]", api.ErrForm}, {"{a[b]}", api.ErrForm},
		{"{a:}", api.ErrForm}, {"{:a}", api.ErrForm}, {"{a:1}", api.ErrForm}, {`{a:"b"}`, api.ErrForm}, {"{a:b:c}", api.ErrForm},
		{"{a::b}", api.ErrForm}, {"{a()}", api.ErrForm}, {"{a(}", api.ErrForm}, {"{a(i)}", api.ErrForm}, {"{a(i:)}", api.ErrForm},
		{"{a(i:b)}", api.ErrForm}, {"{a(i:{)}", api.ErrForm}, {"{a(1:1)}", api.ErrForm}, {`{a("i":1)}`, api.ErrForm},
		{"{a(i 1)}", api.ErrForm}, {"{a(i:1 2)}", api.ErrForm}, {"{a(i:1}", api.ErrForm}, {"{a(i:1)(j:1)}", api.ErrForm},
		{"{(i:1)}", api.ErrForm}, {"{a{}}", api.ErrForm}, {"{a{b}", api.ErrForm}, {"{a{b}{c}}", api.ErrForm},
		{"{a{b}(i:1)}", api.ErrForm}, {"{a(i:1):b}", api.ErrForm},
		{`{"{"}`, api.ErrForm}, {`"{" a "}"`, api.ErrForm},
		// Those of chapter 1 first.
		{many(" ", api.MaxText+1), api.ErrMany}, {"} " + many("n", api.MaxName+1), api.ErrMany},
		{many(":", api.MaxTokens+1), api.ErrMany}, {"{a a $}", api.ErrForm}, {"{a(i:1234567890)}", api.ErrForm},
		// The form of all of it ahead of what Check says.
		{"{a a", api.ErrForm}, {"{a(i:1 i:1)}}", api.ErrForm}, {many("{a", api.MaxDepth+1) + many("}", api.MaxDepth), api.ErrForm},
		{many("{a", api.MaxTokens/2), api.ErrForm},
		// Then what Check says.
		{"{a a}", api.ErrTwice}, {"{a(i:1 i:1)}", api.ErrTwice},
		{many("{a", api.MaxDepth+1) + many("}", api.MaxDepth+1), api.ErrMany},
		{"{a(a:1 b:1 c:1 d:1 e:1 f:1)}", api.ErrMany},
		{"{" + many("a ", api.MaxSelects+1) + "}", api.ErrMany}, {"{" + many("a ", api.MaxSelects) + "}", api.ErrTwice},
	} {
		checkRead(t, c.s, nil, c.want)
	}
}

func TestB2Check(t *testing.T) {
	long, words := strings.Repeat("n", api.MaxName+1), strings.Repeat("w", api.MaxWords+1)
	bad := api.Arg{Name: "9"}
	for i, c := range []struct {
		l    []api.Select
		want api.Errno
	}{
		{nil, api.ErrNone},
		{[]api.Select{}, api.ErrNone},
		{named("a"), api.OK},
		{[]api.Select{{Name: "a", Args: []api.Arg{}, Kids: []api.Select{}}}, api.OK},
		// How many, and how deep.
		{numbered(api.MaxSelects), api.OK},
		{numbered(api.MaxSelects + 1), api.ErrMany},
		{make([]api.Select, api.MaxSelects+1), api.ErrMany},
		{make([]api.Select, api.MaxSelects), api.ErrForm},
		{[]api.Select{{Name: "a", Kids: numbered(api.MaxSelects - 1)}}, api.OK},
		{[]api.Select{{Name: "a", Kids: numbered(api.MaxSelects)}}, api.ErrMany},
		{[]api.Select{{Name: "a", Kids: numbered(20)}, {Name: "b", Kids: numbered(18)}}, api.OK},
		{[]api.Select{{Name: "a", Kids: numbered(20)}, {Name: "b", Kids: numbered(19)}}, api.ErrMany},
		{nested(api.MaxDepth), api.OK},
		{nested(api.MaxDepth + 1), api.ErrMany},
		{nested(1 << 16), api.ErrMany},
		{append(named(""), nested(api.MaxDepth+1)...), api.ErrMany},
		// Names, then aliases.
		{named(""), api.ErrForm},
		{named("9"), api.ErrForm},
		{named("a b"), api.ErrForm},
		{named(long[1:]), api.OK},
		{named(long), api.ErrMany},
		{named(strings.Repeat("$", api.MaxName+1)), api.ErrMany},
		{[]api.Select{{Alias: long[1:], Name: "a"}}, api.OK},
		{[]api.Select{{Alias: long, Name: "a"}}, api.ErrMany},
		{[]api.Select{{Alias: "9", Name: "a"}}, api.ErrForm},
		{[]api.Select{{Alias: "9", Name: long}}, api.ErrMany},
		{[]api.Select{{Alias: long, Name: "9"}}, api.ErrForm},
		{[]api.Select{{Alias: "a"}}, api.ErrForm},
		// Args: how many, behind the alias.
		{with(make([]api.Arg, api.MaxArgs+1)...), api.ErrMany},
		{with(make([]api.Arg, api.MaxArgs)...), api.ErrForm},
		{[]api.Select{{Alias: "9", Name: "a", Args: make([]api.Arg, api.MaxArgs+1)}}, api.ErrForm},
		{with(api.Arg{Name: "a"}, api.Arg{Name: "b"}, api.Arg{Name: "c"}, api.Arg{Name: "d"}, api.Arg{Name: "e"}), api.OK},
		// Args one by one.
		{with(bad), api.ErrForm},
		{with(api.Arg{Name: long, N: api.MaxInt + 1}), api.ErrMany},
		{with(api.Arg{Name: "b"}, api.Arg{Name: "c"}, api.Arg{Name: "b"}), api.ErrTwice},
		{with(api.Arg{Name: "b"}, api.Arg{Name: "b", N: api.MaxInt + 1}), api.ErrTwice},
		{with(api.Arg{Name: "b", N: api.MaxInt + 1}, api.Arg{Name: "b"}), api.ErrRange},
		{with(api.Arg{Name: "b", N: api.MaxInt + 1}, bad), api.ErrRange},
		{with(bad, api.Arg{Name: "b", N: api.MaxInt + 1}), api.ErrForm},
		{with(api.Arg{Name: "b"}, api.Arg{Name: "B"}), api.OK},
		{with(api.Arg{Name: "b", N: api.MaxInt}, api.Arg{Name: "c", N: -api.MaxInt}), api.OK},
		{with(api.Arg{Name: "b", N: -api.MaxInt - 1}), api.ErrRange},
		{with(api.Arg{Name: "b", Text: "x", N: api.MaxInt + 1}), api.ErrForm},
		{with(api.Arg{Name: "b", IsText: true}), api.OK},
		{with(api.Arg{Name: "b", IsText: true, Text: words[1:]}), api.OK},
		{with(api.Arg{Name: "b", IsText: true, Text: words}), api.ErrMany},
		{with(api.Arg{Name: "b", IsText: true, Text: words, N: 1}), api.ErrForm},
		{with(api.Arg{Name: "b", IsText: true, Text: "\x00\n\"\\\xff"}), api.OK},
		// What is called the same.
		{named("a", "b", "a"), api.ErrTwice},
		{[]api.Select{{Name: "a"}, {Alias: "a", Name: "b"}}, api.ErrTwice},
		{[]api.Select{{Alias: "a", Name: "b"}, {Name: "a"}}, api.ErrTwice},
		{[]api.Select{{Alias: "a", Name: "b"}, {Name: "b"}}, api.OK},
		{[]api.Select{{Alias: "a", Name: "b"}, {Alias: "b", Name: "a"}}, api.OK},
		{[]api.Select{{Alias: "a", Name: "b"}, {Alias: "a", Name: "c"}}, api.ErrTwice},
		{[]api.Select{{Name: "a", Kids: named("a")}, {Name: "b", Kids: named("a", "b")}}, api.OK},
		{[]api.Select{{Name: "a", Kids: named("b", "b")}}, api.ErrTwice},
		// At last of a select, but ahead of what is selected of it.
		{[]api.Select{{Name: "a"}, {Name: "a", Args: []api.Arg{{Name: "b", N: api.MaxInt + 1}}}}, api.ErrRange},
		{[]api.Select{{Name: "a"}, {Name: "a", Kids: named("9")}}, api.ErrTwice},
		// Each with what is selected of it ahead of the one beside it.
		{[]api.Select{{Name: "a", Kids: named("b", "b")}, {Name: "9"}}, api.ErrTwice},
		{[]api.Select{{Name: "a", Kids: named("9")}, {Name: "a"}}, api.ErrForm},
		{[]api.Select{{Name: "9", Kids: named("b", "b")}}, api.ErrForm},
		{[]api.Select{{Name: "a"}, {Name: "a"}, {Name: long}}, api.ErrTwice},
	} {
		if no := Check(c.l); no != c.want {
			t.Errorf("%d: Check: %d, not %d", i, no, c.want)
		}
		if s, no := Print(c.l); no != c.want || (s == "") != (no != api.OK) {
			t.Errorf("%d: Print: %.80q %d, not %d", i, s, no, c.want)
		}
	}
}

func TestB2Print(t *testing.T) {
	for _, c := range []struct {
		l    []api.Select
		want string
	}{
		{named("a"), "{ a }"},
		{named("a", "b"), "{ a b }"},
		{[]api.Select{{Alias: "x", Name: "a"}}, "{ x : a }"},
		{with(api.Arg{Name: "i", N: -1}, api.Arg{Name: "j", IsText: true, Text: "\"\\\n"}), `{ a ( i : -1 j : "\"\\\n" ) }`},
		{with(api.Arg{Name: "i"}, api.Arg{Name: "j", IsText: true}), `{ a ( i : 0 j : "" ) }`},
		{[]api.Select{{Alias: "x", Name: "a", Args: []api.Arg{{Name: "i", N: 1}}, Kids: named("b", "c")}, {Name: "d"}}, "{ x : a ( i : 1 ) { b c } d }"},
		{[]api.Select{{Name: "a", Args: []api.Arg{}, Kids: []api.Select{}}}, "{ a }"},
	} {
		if s, no := Print(c.l); s != c.want || no != api.OK {
			t.Errorf("Print(%v): %q %d, not %q", c.l, s, no, c.want)
		}
	}
}

// full: a query with as many args as there may be, of more tokens than chapter 1 prints.
func full() []api.Select {
	l := numbered(api.MaxSelects)
	for i := range l {
		for j := range api.MaxArgs {
			l[i].Args = append(l[i].Args, api.Arg{Name: "x" + strconv.Itoa(j), N: j})
		}
	}
	return l
}

func TestB2PrintHoweverManyTokens(t *testing.T) {
	want := "{"
	for i := range api.MaxSelects {
		want += " n" + strconv.Itoa(i) + " ( x0 : 0 x1 : 1 x2 : 2 x3 : 3 x4 : 4 )"
	}
	want += " }"
	if s, no := Print(full()); s != want || no != api.OK {
		t.Errorf("Print: %q %d, not %q", s, no, want)
	}
}

// TestP1ListsThatHoldThemselves come to an end.
func TestP1ListsThatHoldThemselves(t *testing.T) {
	l := named("a", "b")
	l[0].Kids, l[1].Kids = l, l
	if no := Check(l); no != api.ErrMany {
		t.Errorf("Check: %d", no)
	}
	if s, no := Print(l); s != "" || no != api.ErrMany {
		t.Errorf("Print: %q %d", s, no)
	}
}

func TestP2WhatIsHandedInIsOnlyRead(t *testing.T) {
	fresh := func() ([]api.Arg, []api.Select) {
		return []api.Arg{{Name: "i", N: 1}, {Name: "spare"}}, named("c", "spare")
	}
	args, kids := fresh()
	list := []api.Select{{Name: "a", Args: args[:1], Kids: kids[:1]}, {Name: "spare"}}
	before := slices.Clone(list)
	Check(list[:1])
	Print(list[:1])
	wantArgs, wantKids := fresh()
	if !reflect.DeepEqual(args, wantArgs) || !reflect.DeepEqual(kids, wantKids) || !reflect.DeepEqual(list, before) {
		t.Errorf("it is %v of %v and %v, and was %v of %v and %v", list, args, kids, before, wantArgs, wantKids)
	}
}

func TestP2P3AnswersAreNew(t *testing.T) {
	const text = `{a(i:1){b c}d(i:1){b c}}`
	first, _ := Read(text)
	want, _ := Read(text)
	room := first[0].Kids[:cap(first[0].Kids)]
	clear(room)
	clear(first[0].Args[:cap(first[0].Args)])
	if !reflect.DeepEqual(first[1], want[1]) {
		t.Errorf("lists of one answer share memory: %v", first[1])
	}
	clear(first[:cap(first)])
	checkRead(t, text, want, api.OK)
	if !slices.ContainsFunc(want, func(s api.Select) bool { return s.Name == "d" }) {
		t.Errorf("two answers share memory: %v", want)
	}
}
