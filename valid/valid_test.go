package valid

import (
	"math"
	"reflect"
	"slices"
	"strings"
	"testing"

	"halyard/api"
	"halyard/query"
	"halyard/schema"
)

const kinds = "type A{n:Number t:Text b:B l:[A] m:[B]}type B{n:Number a:A first:[B]}"

// types that a text tells.
func types(t *testing.T, text string) []api.Type {
	t.Helper()
	l, no := schema.Read(text)
	if no != api.OK {
		t.Fatalf("%q is no schema: %d", text, no)
	}
	return l
}

// selects that a text tells.
func selects(t *testing.T, text string) []api.Select {
	t.Helper()
	l, no := query.Read(text)
	if no != api.OK {
		t.Fatalf("%q is no query: %d", text, no)
	}
	return l
}

// check that a query has those paths, or answers that error, and nothing else.
func check(t *testing.T, types []api.Type, l []api.Select, want []string, wantNo api.Errno) {
	t.Helper()
	if no := Query(types, l); no != wantNo {
		t.Errorf("Query(%v): %d, not %d", l, no, wantNo)
	}
	if paths, no := Paths(types, l); no != wantNo || !slices.Equal(paths, want) {
		t.Errorf("Paths(%v): %q %d, not %q %d", l, paths, no, want, wantNo)
	}
}

func TestF1F2QueriesThatFit(t *testing.T) {
	for _, c := range []struct{ text, want string }{
		{"{A{id}}", "A A/id"},
		{"{B{n}}", "B B/n"},
		{"{A{id n t}}", "A A/id A/n A/t"},
		{"{A{t n id}}", "A A/t A/n A/id"},
		{"{A(id:1){n}}", "A A/n"},
		{"{A(id:999){n}}", "A A/n"},
		// What a FieldOne or a FieldMany has, each ahead of the one beside it.
		{"{A{b{n}}}", "A A/b A/b/n"},
		{"{A{b{a{t}}l{t}}}", "A A/b A/b/a A/b/a/t A/l A/l/t"},
		{"{A{l{l{l{id}}}}}", "A A/l A/l/l A/l/l/l A/l/l/l/id"},
		{"{A{m{first{first{n}}}}}", "A A/m A/m/first A/m/first/first A/m/first/first/n"},
		{"{A{n}B{n}}", "A A/n B B/n"},
		{"{B{n}A{n}}", "B B/n A A/n"},
		{"{A{n b{id}l{id}}B{id a{id}}}", "A A/n A/b A/b/id A/l A/l/id B B/id B/a B/a/id"},
		// How many a FieldMany gives.
		{"{A{l(first:0){id}}}", "A A/l A/l/id"},
		{"{A{l(first:1){id}}}", "A A/l A/l/id"},
		{"{A{l(first:999999999){id}}}", "A A/l A/l/id"},
		{"{A(id:7){m(first:2){first(first:3){n}}}}", "A A/m A/m/first A/m/first/n"},
		// What they are called.
		{"{x:A{n}}", "x x/n"},
		{"{x:A{y:n z:n n}}", "x x/y x/z x/n"},
		{"{x:A(id:1){n}y:A(id:2){n}A{n}}", "x x/n y y/n A A/n"},
		{"{B:A{n}A:B{n}}", "B B/n A A/n"},
		{"{A{id:n n:id}}", "A A/id A/n"},
		{"{A{b:l{l:b{n}}l:b{n}}}", "A A/b A/b/l A/b/l/n A/l A/l/n"},
		{"{A{A:l{A:l{A:id}}}}", "A A/A A/A/A A/A/A/A"},
		{"{id:A{id:id}}", "id id/id"},
	} {
		check(t, types(t, kinds), selects(t, c.text), strings.Fields(c.want), api.OK)
	}
}

// TestF1F2NamesThatMeanSomethingElseElsewhere: of a query itself id is no number, and types and fields are named apart.
func TestF1F2NamesThatMeanSomethingElseElsewhere(t *testing.T) {
	for _, c := range []struct {
		kinds, text, want string
		no                api.Errno
	}{
		{"type id{id2:[id]}", "{id{id}}", "id id/id", api.OK},
		{"type id{id2:[id]}", "{id(id:1){id id2(first:1){id}}}", "id id/id id/id2 id/id2/id", api.OK},
		{"type id{id2:[id]}", "{id}", "", api.ErrState},
		{"type id{id2:[id]}", "{id{id{id}}}", "", api.ErrState},
		{"type first{first:[first]}", "{first{first{first{id}}}}", "first first/first first/first/first first/first/first/id", api.OK},
		{"type first{first:[first]}", "{first(first:1){id}}", "", api.ErrNone},
		{"type first{first:[first]}", "{first(id:1){first(first:1){id}}}", "first first/first first/first/id", api.OK},
		{"type A{A:Number B:B}type B{A:[A]}", "{A{A B{A{A}}}}", "A A/A A/B A/B/A A/B/A/A", api.OK},
		{"type A{A:Number B:B}type B{A:[A]}", "{A{A{A}}}", "", api.ErrState},
		{"type A{A:Number B:B}type B{A:[A]}", "{B{A{B{B}}}}", "", api.ErrNone},
		{"type A{Number:Text Text:Number}", "{A{Number Text}}", "A A/Number A/Text", api.OK},
		{"type A{Number:Text Text:Number}", "{Number{id}}", "", api.ErrNone},
	} {
		check(t, types(t, c.kinds), selects(t, c.text), strings.Fields(c.want), c.no)
	}
}

func TestF1OfTheQueryItself(t *testing.T) {
	for _, c := range []struct {
		text string
		want api.Errno
	}{
		// A type of its name.
		{"{C{id}}", api.ErrNone}, {"{a{id}}", api.ErrNone}, {"{n}", api.ErrNone}, {"{id}", api.ErrNone}, {"{l{id}}", api.ErrNone}, {"{A:C{id}}", api.ErrNone},
		{"{C}", api.ErrNone}, {`{C(x:"")}`, api.ErrNone}, {"{C(id:0){id}}", api.ErrNone},
		// Its args, one by one, ahead of what is selected of it.
		{"{A(first:1){id}}", api.ErrNone}, {"{A(Id:1){id}}", api.ErrNone}, {"{A(n:1){id}}", api.ErrNone}, {"{A(x:1)}", api.ErrNone},
		{`{A(x:""){id}}`, api.ErrNone}, {"{A(x:0){id}}", api.ErrNone},
		{`{A(id:""){id}}`, api.ErrKind}, {`{A(id:"1"){id}}`, api.ErrKind}, {`{A(id:"1")}`, api.ErrKind},
		{"{A(id:0){id}}", api.ErrRange}, {"{A(id:-1){id}}", api.ErrRange}, {"{A(id:1000){id}}", api.ErrRange}, {"{A(id:999999999){id}}", api.ErrRange},
		{"{A(id:-999999999){id}}", api.ErrRange}, {"{A(id:0)}", api.ErrRange},
		{"{A(id:1 first:1){id}}", api.ErrNone}, {"{A(first:1 id:1){id}}", api.ErrNone}, {"{A(id:0 first:1){id}}", api.ErrRange},
		{"{A(first:1 id:0){id}}", api.ErrNone}, {`{A(id:"" first:1){id}}`, api.ErrKind}, {`{A(x:1 id:""){id}}`, api.ErrNone},
		// Something must be selected of it.
		{"{A}", api.ErrState}, {"{A(id:1)}", api.ErrState}, {"{x:A}", api.ErrState},
	} {
		check(t, types(t, kinds), selects(t, c.text), nil, c.want)
	}
}

func TestF1OfAllOthers(t *testing.T) {
	for _, c := range []struct {
		text string
		want api.Errno
	}{
		// A field of the type that the one it is selected of is, or has.
		{"{A{z}}", api.ErrNone}, {"{A{N}}", api.ErrNone}, {"{A{ID}}", api.ErrNone}, {"{A{A{id}}}", api.ErrNone}, {"{A{a{id}}}", api.ErrNone},
		{"{B{t}}", api.ErrNone}, {"{B{b{n}}}", api.ErrNone}, {"{A{b{t}}}", api.ErrNone}, {"{A{m{l{id}}}}", api.ErrNone}, {"{A{l{a{id}}}}", api.ErrNone},
		{"{A{b{a{b{t}}}}}", api.ErrNone}, {"{A{n:z}}", api.ErrNone}, {"{x:B{x:t}}", api.ErrNone}, {`{A{z(first:""){id}}}`, api.ErrNone},
		// Its args, one by one, ahead of what is selected of it: those of a FieldMany.
		{"{A{l(id:1){id}}}", api.ErrNone}, {"{A{l(last:1){id}}}", api.ErrNone}, {`{A{l(id:"")}}`, api.ErrNone}, {"{A{l(id:-1){id}}}", api.ErrNone},
		{`{A{l(first:""){id}}}`, api.ErrKind}, {`{A{l(first:"1"){id}}}`, api.ErrKind}, {`{A{l(first:"1")}}`, api.ErrKind},
		{"{A{l(first:-1){id}}}", api.ErrRange}, {"{A{l(first:-999999999){id}}}", api.ErrRange}, {"{A{l(first:-1)}}", api.ErrRange},
		{"{A{l(first:1 id:1){id}}}", api.ErrNone}, {"{A{l(first:-1 id:1){id}}}", api.ErrRange}, {"{A{l(id:1 first:-1){id}}}", api.ErrNone},
		{`{A{l(first:"" id:1){id}}}`, api.ErrKind}, {`{B{first(first:""){id}}}`, api.ErrKind}, {"{B{first(id:1){id}}}", api.ErrNone},
		// Others take none, whatever it is.
		{"{A{b(first:1){id}}}", api.ErrNone}, {"{A{b(id:3){id}}}", api.ErrNone}, {`{A{b(first:""){id}}}`, api.ErrNone}, {"{A{b(first:-1)}}", api.ErrNone},
		{"{A{n(first:1)}}", api.ErrNone}, {"{A{t(first:1)}}", api.ErrNone}, {"{A{id(first:1)}}", api.ErrNone}, {"{A{id(id:1)}}", api.ErrNone},
		{`{A{n(first:"")}}`, api.ErrNone}, {"{A{id(first:-1){id}}}", api.ErrNone}, {"{A{t(x:1){id}}}", api.ErrNone},
		// What is selected of it.
		{"{A{id{id}}}", api.ErrState}, {"{A{n{id}}}", api.ErrState}, {"{A{t{id}}}", api.ErrState}, {"{A{n{z}}}", api.ErrState},
		{"{A{b}}", api.ErrState}, {"{A{l}}", api.ErrState}, {"{A{l(first:1)}}", api.ErrState}, {"{A{m{first}}}", api.ErrState}, {"{A{b{a}}}", api.ErrState},
		{"{x:A{id:b}}", api.ErrState}, {"{x:A{b:id{n}}}", api.ErrState},
	} {
		check(t, types(t, kinds), selects(t, c.text), nil, c.want)
	}
}

// TestF1SelectBySelect: the first one that something is wrong with tells, each ahead of what is selected of it, and that ahead of the one beside it.
func TestF1SelectBySelect(t *testing.T) {
	for _, c := range []struct {
		text string
		want api.Errno
	}{
		{"{A{n{id}}C}", api.ErrState}, {"{C A{n{id}}}", api.ErrNone}, {"{A(id:0){n{id}}}", api.ErrRange}, {`{A(id:""){z}}`, api.ErrKind},
		{"{A{l{n{id}}z}}", api.ErrState}, {"{A{z l{n{id}}}}", api.ErrNone}, {"{A{l(first:-1){z}}}", api.ErrRange}, {"{A{l{z}n{id}}}", api.ErrNone},
		{"{A{b{n}l{z}}B}", api.ErrNone}, {"{B A{b{n}l{z}}}", api.ErrState}, {`{A{l(first:""){id}b(first:1){id}}}`, api.ErrKind},
		{`{A{b(first:1){id}l(first:""){id}}}`, api.ErrNone}, {"{A{n}B{n}x:A{n}y:B}", api.ErrState},
	} {
		check(t, types(t, kinds), selects(t, c.text), nil, c.want)
	}
}

// TestF1ChecksFirst: of the types, then of the query, ahead of whether it fits.
func TestF1ChecksFirst(t *testing.T) {
	right, fits := types(t, kinds), selects(t, "{A{n}}")
	misfit := []api.Select{{Name: "C"}}
	for _, c := range []struct {
		types []api.Type
		l     []api.Select
		want  api.Errno
	}{
		{nil, fits, api.ErrNone}, {[]api.Type{}, nil, api.ErrNone}, {make([]api.Type, api.MaxTypes+1), nil, api.ErrMany},
		{[]api.Type{{Name: "A"}}, []api.Select{{Name: "9"}}, api.ErrNone}, {[]api.Type{{Name: "Text"}}, nil, api.ErrState},
		{append(slices.Clone(right), right[0]), misfit, api.ErrTwice}, {[]api.Type{{Name: "9"}}, fits, api.ErrForm},
		{[]api.Type{{Name: "A", Fields: []api.Field{{Name: "n", Kind: 9}}}}, fits, api.ErrKind},
		{right, nil, api.ErrNone}, {right, []api.Select{}, api.ErrNone}, {right, []api.Select{{Name: "9"}}, api.ErrForm},
		{right, make([]api.Select, api.MaxSelects+1), api.ErrMany}, {right, append(misfit[:1:1], api.Select{Name: "9"}), api.ErrForm},
		{right, append(misfit[:1:1], misfit[0]), api.ErrTwice}, {right, []api.Select{{Name: "C", Args: make([]api.Arg, api.MaxArgs+1)}}, api.ErrMany},
		{right, []api.Select{{Name: "C", Args: []api.Arg{{Name: "id", N: api.MaxInt + 1}}}}, api.ErrRange},
		{right, []api.Select{{Name: "A", Args: []api.Arg{{Name: "id", N: math.MinInt, Text: "x"}}}}, api.ErrForm},
		{right, []api.Select{{Name: "A", Args: []api.Arg{{Name: "id", N: 1, IsText: true}}}}, api.ErrForm},
		{right, []api.Select{{Name: "C", Kids: []api.Select{{Name: "n"}, {Name: "n"}}}}, api.ErrTwice},
		{right, []api.Select{{Name: "A", Kids: []api.Select{{Name: "l", Args: []api.Arg{{Name: "first", N: api.MaxInt + 1}}}}}}, api.ErrRange},
		{right, misfit, api.ErrNone},
	} {
		check(t, c.types, c.l, nil, c.want)
	}
}

// TestF1F2AsManyAsThereMayBe: selects, their depth, and the bytes of what they are called.
func TestF1F2AsManyAsThereMayBe(t *testing.T) {
	right := types(t, kinds)
	name := func(i int) string {
		return strings.Repeat("x", api.MaxName-2) + string([]byte{'a' + byte(i/26), 'a' + byte(i%26)})
	}
	wide := []api.Select{{Alias: name(0), Name: "A"}}
	want := []string{name(0)}
	for i := range api.MaxSelects - 1 {
		wide[0].Kids = append(wide[0].Kids, api.Select{Alias: name(i), Name: "n"})
		want = append(want, name(0)+"/"+name(i))
	}
	check(t, right, wide, want, api.OK)
	wide[0].Kids = append(wide[0].Kids, api.Select{Name: "n"})
	check(t, right, wide, nil, api.ErrMany)
	deep := func(depth int) []api.Select {
		l := []api.Select{{Alias: name(9), Name: "n"}}
		for range depth - 2 {
			l = []api.Select{{Alias: name(9), Name: "l", Kids: l}}
		}
		return []api.Select{{Alias: name(9), Name: "A", Kids: l}}
	}
	want = nil
	for i := range api.MaxDepth {
		want = append(want, name(9)+strings.Repeat("/"+name(9), i))
	}
	check(t, right, deep(api.MaxDepth), want, api.OK)
	check(t, right, deep(api.MaxDepth+1), nil, api.ErrMany)
	check(t, right, deep(1<<16), nil, api.ErrMany)
}

// TestP1ListsThatHoldThemselves come to an end.
func TestP1ListsThatHoldThemselves(t *testing.T) {
	l := []api.Select{{Name: "A"}}
	l[0].Kids = l
	check(t, types(t, "type A{A:[A]}"), l, nil, api.ErrMany)
}

// TestP2WhatIsHandedInIsOnlyRead, the spare room too.
func TestP2WhatIsHandedInIsOnlyRead(t *testing.T) {
	fresh := func() ([]api.Type, []api.Select) {
		return types(t, kinds), selects(t, "{A(id:1 x:1){n l(first:1){id n}b{n}}B{n}}")
	}
	room, l := fresh()
	wantRoom, wantList := fresh()
	fields, args, kids := room[0].Fields, l[0].Args, l[0].Kids
	handed := []api.Type{{Name: "A", Fields: fields[:4]}, room[1], {Name: "spare"}}
	list := []api.Select{{Name: "A", Args: args[:1], Kids: kids[:2]}, {Name: "spare"}}
	check(t, handed[:2], list[:1], []string{"A", "A/n", "A/l", "A/l/id", "A/l/n"}, api.OK)
	if !reflect.DeepEqual(room, wantRoom) || !reflect.DeepEqual(l, wantList) || handed[2].Name != "spare" || list[1].Name != "spare" {
		t.Errorf("it is %v and %v, and was %v and %v", room, l, wantRoom, wantList)
	}
}

func TestP2P3AnswersAreNew(t *testing.T) {
	right, l := types(t, kinds), selects(t, "{A{n l{id}}}")
	first, _ := Paths(right, l)
	clear(first[:cap(first)])
	check(t, right, l, []string{"A", "A/n", "A/l", "A/l/id"}, api.OK)
}
