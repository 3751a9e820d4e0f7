package lex

import (
	"math"
	"slices"
	"strings"
	"testing"

	"halyard/api"
)

func name(s string) api.Token     { return api.Token{Kind: api.TokenName, Text: s} }
func number(n int) api.Token      { return api.Token{Kind: api.TokenNumber, N: n} }
func words(s string) api.Token    { return api.Token{Kind: api.TokenText, Text: s} }
func sign(s string) api.Token     { return api.Token{Kind: api.TokenSign, Text: s} }
func many(s string, n int) string { return strings.Repeat(s, n) }

func checkRead(t *testing.T, s string, want []api.Token, wantNo api.Errno) {
	t.Helper()
	got, no := Read(s)
	if no != wantNo || !slices.Equal(got, want) {
		t.Errorf("Read(%.80q): %v %d, not %v %d", s, got, no, want, wantNo)
	}
}

func TestA1ReadsTokens(t *testing.T) {
	for _, c := range []struct {
		s    string
		want []api.Token
	}{
		{"", nil},
		{" \t\n\r,", nil},
		{"#", nil},
		{"# all \" of $ it", nil},
		{"#a\n#b\n\n# c", nil},
		{"a#b\nc", []api.Token{name("a"), name("c")}},
		{"a#b\rc", []api.Token{name("a")}},
		{"1#\n2", []api.Token{number(1), number(2)}},
		{"a,b,,c", []api.Token{name("a"), name("b"), name("c")}},
		{"_ _9 zZ aA09_", []api.Token{name("_"), name("_9"), name("zZ"), name("aA09_")}},
		{"abcdefghijkl", []api.Token{name("abcdefghijkl")}},
		{"9a", []api.Token{number(9), name("a")}},
		{"0a0", []api.Token{number(0), name("a0")}},
		{"a-1", []api.Token{name("a"), number(-1)}},
		{"1-2-3", []api.Token{number(1), number(-2), number(-3)}},
		{"0-1", []api.Token{number(0), number(-1)}},
		{"10 100", []api.Token{number(10), number(100)}},
		{"999999999 -999999999", []api.Token{number(999999999), number(-999999999)}},
		{`""`, []api.Token{words("")}},
		{`"a""b"c"d"1`, []api.Token{words("a"), words("b"), name("c"), words("d"), number(1)}},
		{`"\"" "\\" "\n" "\\n" "\\\""`, []api.Token{words(`"`), words(`\`), words("\n"), words(`\n`), words(`\"`)}},
		{`"#a, {"`, []api.Token{words("#a, {")}},
		{"\"\x00\t\r\xff\x80\"", []api.Token{words("\x00\t\r\xff\x80")}},
		{"{}():[]", []api.Token{sign("{"), sign("}"), sign("("), sign(")"), sign(":"), sign("["), sign("]")}},
		{"a:b", []api.Token{name("a"), sign(":"), name("b")}},
	} {
		checkRead(t, c.s, c.want, api.OK)
	}
}

func TestA1NothingStandsThere(t *testing.T) {
	for _, s := range []string{
		"$", "\x00", "\x0b", "\x0c", "\xa0", "\xc3\xa9", "a\x7f", "a.b", "'a'", "+1", "@", "`", "/", ";", "<", "!",
		"-", "- 1", "-a", "--1", "-0", "-01", "00", "01", "0123456789", "1234567890", "-1234567890", "0000000001",
		`"`, `"a`, `"\`, `"\"`, `"\\\"`, `"\t"`, `"\N"`, `"\ "`, "\"\\\n\"", "\"\n\"", "\"a\nb\"", `\`, `\"a"`, `a"`,
	} {
		checkRead(t, s, nil, api.ErrForm)
		checkRead(t, "a "+s, nil, api.ErrForm)
	}
}

func TestA1Limits(t *testing.T) {
	checkRead(t, many(" ", api.MaxText), nil, api.OK)
	checkRead(t, many(" ", api.MaxText+1), nil, api.ErrMany)
	checkRead(t, many("$", api.MaxText+1), nil, api.ErrMany)
	checkRead(t, many("n", api.MaxName+1), nil, api.ErrMany)
	checkRead(t, "n"+many("0", api.MaxName), nil, api.ErrMany)
	full := many("w", api.MaxWords)
	checkRead(t, `"`+full+`"`, []api.Token{words(full)}, api.OK)
	checkRead(t, `"`+full+`w"`, nil, api.ErrMany)
	checkRead(t, `"`+many(`\"`, api.MaxWords)+`"`, []api.Token{words(many(`"`, api.MaxWords))}, api.OK)
	checkRead(t, `"`+many(`\n`, api.MaxWords+1)+`"`, nil, api.ErrMany)
	if l, no := Read(many(":", api.MaxTokens)); len(l) != api.MaxTokens || no != api.OK {
		t.Errorf("MaxTokens: %d %d", len(l), no)
	}
	checkRead(t, many(":", api.MaxTokens)+"a", nil, api.ErrMany)
	if l, no := Read(many(":", api.MaxTokens) + " # no token"); len(l) != api.MaxTokens || no != api.OK {
		t.Errorf("MaxTokens and a remark: %d %d", len(l), no)
	}
}

func TestA1WhicheverComesFirst(t *testing.T) {
	long, full := many("n", api.MaxName+1), many(":", api.MaxTokens)
	for _, c := range []struct {
		s    string
		want api.Errno
	}{
		{long + " $", api.ErrMany},
		{"$ " + long, api.ErrForm},
		{`"` + many("w", api.MaxWords+1) + `" $`, api.ErrMany},
		{`$ "` + many("w", api.MaxWords+1) + `"`, api.ErrForm},
		{`"` + many("w", api.MaxWords+1), api.ErrForm},
		{`"` + many("w", api.MaxWords+1) + "\n\"", api.ErrForm},
		{`"` + many("w", api.MaxWords+1) + `\t"`, api.ErrForm},
		{full + "$", api.ErrForm},
		{full + "01", api.ErrForm},
		{full + `"`, api.ErrForm},
		{full + "a$", api.ErrMany},
		{full + long, api.ErrMany},
	} {
		checkRead(t, c.s, nil, c.want)
	}
}

func TestA2Check(t *testing.T) {
	long := many("n", api.MaxName+1)
	for _, c := range []struct {
		token api.Token
		want  api.Errno
	}{
		{api.Token{}, api.ErrKind},
		{api.Token{Kind: -1}, api.ErrKind},
		{api.Token{Kind: 5, Text: "a", N: 1}, api.ErrKind},
		{name("a"), api.OK},
		{name("_9Z"), api.OK},
		{name(long[1:]), api.OK},
		{name(long), api.ErrMany},
		{name(many("$", api.MaxName+1)), api.ErrMany},
		{api.Token{Kind: api.TokenName, Text: long, N: 1}, api.ErrForm},
		{api.Token{Kind: api.TokenName, Text: "a", N: -1}, api.ErrForm},
		{name(""), api.ErrForm},
		{name("9"), api.ErrForm},
		{name("a b"), api.ErrForm},
		{name("a-"), api.ErrForm},
		{name(" a"), api.ErrForm},
		{name("\xc3\xa9"), api.ErrForm},
		{number(0), api.OK},
		{number(api.MaxInt), api.OK},
		{number(-api.MaxInt), api.OK},
		{number(api.MaxInt + 1), api.ErrRange},
		{number(-api.MaxInt - 1), api.ErrRange},
		{number(math.MaxInt), api.ErrRange},
		{number(math.MinInt), api.ErrRange},
		{api.Token{Kind: api.TokenNumber, Text: "1", N: api.MaxInt + 1}, api.ErrForm},
		{words(""), api.OK},
		{words("\x00\n\"\\\xff"), api.OK},
		{words(many("w", api.MaxWords)), api.OK},
		{words(many("w", api.MaxWords+1)), api.ErrMany},
		{api.Token{Kind: api.TokenText, Text: many("w", api.MaxWords+1), N: 1}, api.ErrForm},
		{sign("{"), api.OK},
		{sign("}"), api.OK},
		{sign("("), api.OK},
		{sign(")"), api.OK},
		{sign(":"), api.OK},
		{sign("["), api.OK},
		{sign("]"), api.OK},
		{sign(""), api.ErrForm},
		{sign("{}"), api.ErrForm},
		{sign(","), api.ErrForm},
		{sign("#"), api.ErrForm},
		{sign("a"), api.ErrForm},
		{api.Token{Kind: api.TokenSign, Text: "{", N: 1}, api.ErrForm},
	} {
		l := []api.Token{name("a"), c.token}
		if no := Check(l); no != c.want {
			t.Errorf("Check(%v): %d, not %d", c.token, no, c.want)
		}
		if s, no := Print(l); no != c.want || no != api.OK && s != "" {
			t.Errorf("Print(%v): %q %d, not %d", c.token, s, no, c.want)
		}
	}
}

func TestA2CheckGoesOneByOne(t *testing.T) {
	for _, c := range []struct {
		l    []api.Token
		want api.Errno
	}{
		{nil, api.OK},
		{[]api.Token{}, api.OK},
		{slices.Repeat([]api.Token{sign(":")}, api.MaxTokens), api.OK},
		{slices.Repeat([]api.Token{sign(":")}, api.MaxTokens+1), api.ErrMany},
		{make([]api.Token, api.MaxTokens+1), api.ErrMany},
		{make([]api.Token, api.MaxTokens), api.ErrKind},
		{[]api.Token{number(api.MaxInt + 1), {}}, api.ErrRange},
		{[]api.Token{{}, number(api.MaxInt + 1)}, api.ErrKind},
		{[]api.Token{sign(","), words(many("w", api.MaxWords+1))}, api.ErrForm},
	} {
		if no := Check(c.l); no != c.want {
			t.Errorf("Check(%.80v): %d, not %d", c.l, no, c.want)
		}
	}
}

func TestA2Print(t *testing.T) {
	for _, c := range []struct {
		l    []api.Token
		want string
	}{
		{nil, ""},
		{[]api.Token{name("a")}, "a"},
		{[]api.Token{name("a"), number(-7), number(0), sign(":"), words("")}, `a -7 0 : ""`},
		{[]api.Token{words("q\"\\\n\\n\t\x00\xff")}, "\"q\\\"\\\\\\n\\\\n\t\x00\xff\""},
		{[]api.Token{words(" , #")}, `" , #"`},
	} {
		if s, no := Print(c.l); s != c.want || no != api.OK {
			t.Errorf("Print(%v): %q %d, not %q", c.l, s, no, c.want)
		}
	}
}

func TestP2WhatIsHandedInIsOnlyRead(t *testing.T) {
	room := []api.Token{name("a"), words("\n"), number(7), sign("{")}
	before := slices.Clone(room)
	Check(room[:2])
	Print(room[:2])
	if !slices.Equal(room, before) {
		t.Errorf("it is %v, and was %v", room, before)
	}
}

func TestP2P3AnswersAreNew(t *testing.T) {
	const text = `a 1 "t" {`
	first, _ := Read(text)
	want := slices.Clone(first)
	clear(first[:cap(first)])
	checkRead(t, text, want, api.OK)
}
