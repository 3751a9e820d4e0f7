package json

import (
	"fmt"
	"reflect"
	"slices"
	"strings"
	"testing"

	"halyard/api"
	"halyard/exec"
	"halyard/history"
	"halyard/query"
	"halyard/schema"
)

func none() api.Out               { return api.Out{Kind: api.OutNone} }
func number(n int) api.Out        { return api.Out{Kind: api.OutNumber, N: n} }
func words(s string) api.Out      { return api.Out{Kind: api.OutText, Text: s} }
func list(l ...api.Out) api.Out   { return api.Out{Kind: api.OutList, List: l} }
func many(s string, n int) string { return strings.Repeat(s, n) }

// keyed: a map of those keys, with 0, 1 and so on.
func keyed(keys ...string) api.Out {
	o := api.Out{Kind: api.OutMap, Keys: keys}
	for i := range keys {
		o.List = append(o.List, number(i))
	}
	return o
}

// plain: empty lists are as good as none.
func plain(o api.Out) api.Out {
	o.Keys = append([]string(nil), o.Keys...)
	o.List = append([]api.Out(nil), o.List...)
	for i, in := range o.List {
		o.List[i] = plain(in)
	}
	return o
}

func same(a, b api.Out) bool { return reflect.DeepEqual(plain(a), plain(b)) }

// checkBoth: an out is printed so, and that is read as it was.
func checkBoth(t *testing.T, o api.Out, text string) {
	t.Helper()
	if s, no := Print(o); s != text || no != api.OK {
		t.Errorf("Print(%v): %.80q %d, not %.80q", o, s, no, text)
	}
	if got, no := Read(text); !same(got, o) || no != api.OK {
		t.Errorf("Read(%.80q): %v %d, not %v", text, got, no, o)
	}
}

func checkNoRead(t *testing.T, text string, want api.Errno) {
	t.Helper()
	if o, no := Read(text); no != want || !same(o, api.Out{}) {
		t.Errorf("Read(%.80q): %v %d, not %d", text, o, no, want)
	}
}

func TestH1PrintsAndReads(t *testing.T) {
	for _, c := range []struct {
		o    api.Out
		text string
	}{
		{none(), "null"},
		{number(0), "0"}, {number(7), "7"}, {number(-7), "-7"}, {number(10), "10"}, {number(-100), "-100"},
		{number(api.MaxInt), "999999999"}, {number(-api.MaxInt), "-999999999"},
		{words(""), `""`}, {words("a"), `"a"`}, {words(" a,b:{}[]/' "), `" a,b:{}[]/' "`}, {words("null"), `"null"`},
		{words(`"`), `"\""`}, {words(`\`), `"\\"`}, {words("\n"), `"\n"`}, {words(`\n`), `"\\n"`}, {words(`\"`), `"\\\""`}, {words(`\u0000`), `"\\u0000"`},
		{words("\x00\x01\t\r\x0b\x1f"), `"\u0000\u0001\u0009\u000d\u000b\u001f"`}, {words("\x10\n\x1a"), `"\u0010\n\u001a"`},
		{words(" \x7f\x80\xc3\xa9\xff"), "\" \x7f\x80\xc3\xa9\xff\""},
		{words(many("w", api.MaxWords)), `"` + many("w", api.MaxWords) + `"`},
		{words(many("\x1f", api.MaxWords)), `"` + many(`\u001f`, api.MaxWords) + `"`},
		{list(), "[]"}, {list(none()), "[null]"}, {list(number(1), number(-2)), "[1,-2]"}, {list(words(","), words("]")), `[",","]"]`},
		{list(list(), list(list()), keyed()), "[[],[[]],{}]"},
		{keyed(), "{}"}, {keyed("a"), `{"a":0}`}, {keyed("b", "a", "_9"), `{"b":0,"a":1,"_9":2}`}, {keyed("null", "abcdefghijkl"), `{"null":0,"abcdefghijkl":1}`},
		{api.Out{Kind: api.OutMap, Keys: []string{"a", "b", "c", "d"}, List: []api.Out{none(), words("a"), list(keyed("a")), keyed("a")}},
			`{"a":null,"b":"a","c":[{"a":0}],"d":{"a":0}}`},
	} {
		checkBoth(t, c.o, c.text)
	}
}

// TestH1EachByte of a text: how it is printed, and how else it is not read.
func TestH1EachByte(t *testing.T) {
	for c := range 256 {
		b := string([]byte{byte(c)})
		small, great := fmt.Sprintf(`\u%04x`, c), fmt.Sprintf(`\u%04X`, c)
		told := b
		switch {
		case c == '"' || c == '\\':
			told = `\` + b
		case c == '\n':
			told = `\n`
		case c < 32:
			told = small
		}
		checkBoth(t, words("a"+b+"z"), `"a`+told+`z"`)
		for _, other := range []string{small, great, `\` + b, `\x` + small[4:], `\u` + small[4:], `\` + small} {
			if other == told || c == 'n' && other == `\n` || other[:2] == `\\` {
				continue
			}
			checkNoRead(t, `"`+other+`"`, api.ErrForm)
		}
		if told != b {
			checkNoRead(t, `"a`+b+`b"`, api.ErrForm)
		}
	}
}

func TestH1NothingOfThatForm(t *testing.T) {
	for _, s := range []string{
		"", " ", "\n", "x", "$", "\x00", "'a'", "true", "false", ",", ":", "]", "}",
		"n", "nul", "NULL", "Null", "nullnull", "null ", " null", "null,null", "null,",
		"-", "--1", "-0", "00", "01", "-01", "+1", "1.0", "1e3", "0x1", "1 ", " 1", "1-1", "1,2", "1234567890", "-1234567890", "0000000001", many("1", 3000),
		`"`, `"a`, `a"`, `"a"b`, `"a""b"`, `"\`, `"\"`, `"\t"`, `"\r"`, `"\b"`, `"\f"`, `"\/"`, `"\N"`, `"\u"`, `"\u0"`, `"\u00`, `"\u00"`, `"\u000`, `"\u000"`, `"\u0000`,
		`"\u0100"`, `"\u1000"`, `"\u001g"`, `"\u00g1"`, `"\U0001"`, `"\u000 "`, `"\u000-"`, `"\u00 1"`, "\"\n\"", "\"\t\"", `"\u000a"`, `"\u0022"`, `"\u005c"`, `"\u0020"`, `"\u001F"`, `"\u00e9"`,
		"[", "[1", "[1,", "[1,]", "[,]", "[,1]", "[1,,2]", "[1 ,2]", "[1, 2]", "[ ]", "[ 1]", "[1 ]", "[1]]", "[[1]", "[1}", "[]1", "[]]", "[1;2]", "[1 2]", "[x]", `["a]`, "[-0]", "[\n]",
		"{", "{1", `{"a"`, `{"a"}`, `{"a":`, `{"a":}`, `{"a":1`, `{"a":1,`, `{"a":1,}`, `{,}`, `{,"a":1}`, `{"a":1,,"b":2}`, `{"a":1;"b":2}`, `{"a":1"b":2}`, `{"a" :1}`, `{"a": 1}`,
		`{ "a":1}`, `{"a":1 }`, `{"a":1, "b":2}`, `{a:1}`, `{'a':1}`, `{1:1}`, `{null:1}`, `{"a",1}`, `{"a"=1}`, `{"a":1]`, `{"a":1}}`, `{"a":1:2}`, `{:1}`, `{"a":x}`, `{"a":1,2}`, `{1}`, `{[]:1}`,
		`{"a:1}`, `{a":1}`, `{"":1}`, `{"1":1}`, `{"a b":1}`, `{"a-":1}`, `{"\n":1}`, `{"a\"":1}`, `{"\u0061":1}`, "{\"a\n\":1}", "{\"\xc3\xa9\":1}", `{"a\":1}`,
	} {
		checkNoRead(t, s, api.ErrForm)
	}
}

// TestH1WhatCheckSays of what has the form; what has not goes first, wherever it is.
func TestH1WhatCheckSays(t *testing.T) {
	long, wordy := many("n", api.MaxName+1), `"`+many("w", api.MaxWords+1)+`"`
	deepest := 2*api.MaxDepth + 1
	nested := func(depth int) string { return many("[", depth-1) + "null" + many("]", depth-1) }
	several := func(n int) string { return "[" + many("0,", n-2) + "0]" }
	for _, c := range []struct {
		text string
		want api.Errno
	}{
		{wordy, api.ErrMany}, {`"` + many(`\n`, api.MaxWords+1) + `"`, api.ErrMany}, {wordy + ",", api.ErrForm}, {wordy[:42], api.ErrForm},
		{"[" + wordy + ",x]", api.ErrForm}, {"[" + wordy, api.ErrForm}, {"[" + wordy + ",-0]", api.ErrForm},
		{`{"` + long + `":1}`, api.ErrMany}, {`{"` + many("$", api.MaxName+1) + `":1}`, api.ErrMany}, {`{"` + long + `":}`, api.ErrForm},
		{`{"a":1,"a":2}`, api.ErrTwice}, {`{"a":1,"b":2,"a":1}`, api.ErrTwice}, {`{"a":1,"a":2,"1":3}`, api.ErrTwice}, {`{"a":1,"a":2,"1"}`, api.ErrForm},
		{`{"a":1,"a":2`, api.ErrForm}, {`[{"a":1,"a":2},` + wordy + `]`, api.ErrTwice}, {`[` + wordy + `,{"a":1,"a":2}]`, api.ErrMany},
		{`[` + wordy + `,{"1":1}]`, api.ErrMany}, {`[{"1":1},` + wordy + `]`, api.ErrForm}, {`{"a":` + wordy + `,"a":1}`, api.ErrTwice},
		{nested(deepest), api.OK}, {nested(deepest + 1), api.ErrMany}, {nested(deepest+1) + "]", api.ErrForm}, {many("[", 300), api.ErrForm},
		{many(`{"a":`, deepest-1) + "0" + many("}", deepest-1), api.OK}, {many(`{"a":`, deepest) + "0" + many("}", deepest), api.ErrMany},
		{several(api.MaxText), api.OK}, {several(api.MaxText + 1), api.ErrMany}, {several(api.MaxText+1) + "0", api.ErrForm},
		{`[{"a":1,"a":2},` + several(api.MaxText)[1:], api.ErrMany},
	} {
		if c.want != api.OK {
			checkNoRead(t, c.text, c.want)
		} else if o, no := Read(c.text); no != api.OK {
			t.Errorf("Read(%.80q): %v %d", c.text, o, no)
		} else {
			checkBoth(t, o, c.text)
		}
	}
}

// TestH1HowLongATextMayBe: ten times MaxText bytes, ahead of all else.
func TestH1HowLongATextMayBe(t *testing.T) {
	most := 10 * api.MaxText
	full := words(many("w", api.MaxWords))
	// 465 texts of 42 bytes with commas between, in brackets, and four that are told by two bytes.
	o := list(slices.Repeat([]api.Out{full}, 464)...)
	o.List = append(o.List, words(many("\n", 4)+many("w", api.MaxWords-4)))
	s, no := Print(o)
	if len(s) != most || no != api.OK {
		t.Fatalf("it has %d bytes: %d", len(s), no)
	}
	checkBoth(t, o, s)
	o.List[0].Text = "\n" + full.Text[1:]
	longer, no := Print(o)
	if len(longer) != most+1 || no != api.OK {
		t.Errorf("it has %d bytes: %d", len(longer), no)
	}
	checkNoRead(t, longer, api.ErrMany)
	checkNoRead(t, many("1", most), api.ErrForm)
	checkNoRead(t, many("1", most+1), api.ErrMany)
	checkNoRead(t, many("$", most+1), api.ErrMany)
	checkNoRead(t, many("[", most), api.ErrForm)
	checkNoRead(t, many("[", most/2)+many("]", most/2), api.ErrMany)
	checkNoRead(t, many(`{"a":`, most/5), api.ErrForm)
	greatest := list(slices.Repeat([]api.Out{words(many("\x00", api.MaxWords))}, api.MaxText-1)...)
	if s, no := Print(greatest); len(s) != 1+(6*api.MaxWords+3)*(api.MaxText-1) || no != api.OK {
		t.Errorf("it has %d bytes: %d", len(s), no)
	}
}

// TestH1PrintErrors: what Check says, and no text.
func TestH1PrintErrors(t *testing.T) {
	holds := list(list())
	holds.List[0].List = holds.List
	for _, c := range []struct {
		o    api.Out
		want api.Errno
	}{
		{api.Out{}, api.ErrKind}, {api.Out{Kind: 6}, api.ErrKind}, {api.Out{Kind: api.OutNone, N: 1}, api.ErrForm}, {number(api.MaxInt + 1), api.ErrRange},
		{words(many("w", api.MaxWords+1)), api.ErrMany}, {list(none(), api.Out{}), api.ErrKind}, {keyed("a", "a"), api.ErrTwice}, {keyed("1"), api.ErrForm},
		{keyed(`a":0,"b`), api.ErrForm}, {keyed(many("n", api.MaxName+1)), api.ErrMany}, {api.Out{Kind: api.OutMap, Keys: []string{"a"}}, api.ErrForm},
		{api.Out{Kind: api.OutMap, List: []api.Out{none()}}, api.ErrForm}, {list(make([]api.Out, api.MaxText)...), api.ErrMany}, {holds, api.ErrMany},
	} {
		if s, no := Print(c.o); s != "" || no != c.want {
			t.Errorf("Print(%v): %.80q %d, not %d", shown(c.o), s, no, c.want)
		}
	}
}

// shown: an out, but not what is in it, as it may hold itself.
func shown(o api.Out) api.Out {
	o.List = nil
	return o
}

// TestTheExampleOfTheDocument, of now and of the time ahead of the last event.
func TestTheExampleOfTheDocument(t *testing.T) {
	types, _ := schema.Read("type A { n: Number l: [A] }")
	l, _ := query.Read("{ A(id: 1) { n two: l { id } } }")
	events := []api.Event{
		{Kind: api.EventMake, Id: 1}, {Kind: api.EventMake, Id: 2},
		{Kind: api.EventNumber, Id: 1, N: 5}, {Kind: api.EventLink, Id: 1, Field: 1, N: 2},
	}
	for n, want := range map[int]string{
		4: `{"A":{"n":5,"two":[{"id":2}]}}`, 3: `{"A":{"n":5,"two":[]}}`, 1: `{"A":{"n":0,"two":[]}}`, 0: `{"A":null}`,
	} {
		s, no := history.At(types, events, n)
		if no != api.OK {
			t.Fatalf("At %d: %d", n, no)
		}
		o, no := exec.Query(s, l)
		if no != api.OK {
			t.Fatalf("Query at %d: %d", n, no)
		}
		checkBoth(t, o, want)
	}
}
