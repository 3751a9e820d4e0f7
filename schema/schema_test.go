package schema

import (
	"reflect"
	"slices"
	"strings"
	"testing"

	"halyard/api"
)

func number(name string) api.Field      { return api.Field{Name: name, Kind: api.FieldNumber} }
func text(name string) api.Field        { return api.Field{Name: name, Kind: api.FieldText} }
func one(name, of string) api.Field     { return api.Field{Name: name, Kind: api.FieldOne, Of: of} }
func many(name, of string) api.Field    { return api.Field{Name: name, Kind: api.FieldMany, Of: of} }
func field(kind int) api.Field          { return api.Field{Name: "f", Kind: kind} }
func repeat(s string, n int) string     { return strings.Repeat(s, n) }
func of(fields ...api.Field) []api.Type { return []api.Type{typed("A", fields...)} }

func typed(name string, fields ...api.Field) api.Type {
	return api.Type{Name: name, Fields: fields}
}

// simple types, each with a field.
func simple(names ...string) []api.Type {
	var l []api.Type
	for _, n := range names {
		l = append(l, typed(n, number("n")))
	}
	return l
}

func checkRead(t *testing.T, s string, want []api.Type, wantNo api.Errno) {
	t.Helper()
	got, no := Read(s)
	if no != wantNo || len(got) != len(want) || len(want) > 0 && !reflect.DeepEqual(got, want) {
		t.Errorf("Read(%.80q): %v %d, not %v %d", s, got, no, want, wantNo)
	}
}

func TestC1ReadsSchemas(t *testing.T) {
	for _, c := range []struct {
		s    string
		want []api.Type
	}{
		{"type A{n:Number}", of(number("n"))},
		{"type A { t: Text, } # that is all", of(text("t"))},
		{"type A{a:A}", of(one("a", "A"))},
		{"type A{l:[A]}", of(many("l", "A"))},
		{"type A{n:Number t:Text a:A l:[A]}", of(number("n"), text("t"), one("a", "A"), many("l", "A"))},
		{"type A{b:B}type B{l:[A]}", []api.Type{typed("A", one("b", "B")), typed("B", many("l", "A"))}},
		{"type type{type:type}", []api.Type{typed("type", one("type", "type"))}},
		{"type type{type:[type]}type A{n:type}", []api.Type{typed("type", many("type", "type")), typed("A", one("n", "type"))}},
		{"type A{Number:Number Text:Text A:A}", of(number("Number"), text("Text"), one("A", "A"))},
		{"type A{ID:Number}type number{Id:Text}type text{i:number}", []api.Type{typed("A", number("ID")), typed("number", text("Id")), typed("text", one("i", "number"))}},
		{"type id{n:id}", []api.Type{typed("id", one("n", "id"))}},
	} {
		checkRead(t, c.s, c.want, api.OK)
	}
}

func TestC1ReadErrors(t *testing.T) {
	for _, c := range []struct {
		s    string
		want api.Errno
	}{
		{"", api.ErrForm}, {"# none", api.ErrForm}, {"type", api.ErrForm}, {"type A", api.ErrForm}, {"type A{", api.ErrForm},
		{"type A{}", api.ErrForm}, {"A{n:Number}", api.ErrForm}, {"Type A{n:Number}", api.ErrForm}, {`"type" A{n:Number}`, api.ErrForm},
		{"type{n:Number}", api.ErrForm}, {`type "A"{n:Number}`, api.ErrForm}, {"type 1{n:Number}", api.ErrForm},
		{"type A n:Number}", api.ErrForm}, {"type A(n:Number)", api.ErrForm}, {"type A{n:Number", api.ErrForm},
		{"type A{n}", api.ErrForm}, {"type A{n:}", api.ErrForm}, {"type A{n Number}", api.ErrForm}, {"type A{:Number}", api.ErrForm},
		{"type A{n:1}", api.ErrForm}, {`type A{n:"Number"}`, api.ErrForm}, {"type A{1:Number}", api.ErrForm}, {`type A{"n":Number}`, api.ErrForm},
		{"type A{n:[]}", api.ErrForm}, {"type A{n:[A}", api.ErrForm}, {"type A{n:A]}", api.ErrForm}, {"type A{n:[A)}", api.ErrForm},
		{"type A{n:[[A]]}", api.ErrForm}, {"type A{n:[1]}", api.ErrForm}, {"type A{n:[A A]}", api.ErrForm}, {"type A{n::A}", api.ErrForm},
		{"type A{n:Number}}", api.ErrForm}, {"type A{n:Number} B", api.ErrForm}, {"type A{n:Number}type", api.ErrForm},
		{"type A{n:Number}{m:Number}", api.ErrForm}, {"type A{n:Number}A B{n:Number}", api.ErrForm}, {"{type A{n:Number}}", api.ErrForm},
		// Those of chapter 1 first.
		{"$", api.ErrForm}, {repeat(" ", api.MaxText+1), api.ErrMany}, {"type } " + repeat("n", api.MaxName+1), api.ErrMany},
		{repeat(":", api.MaxTokens+1), api.ErrMany}, {"type A{a:Z $}", api.ErrForm},
		// The form of all of it ahead of what Check says.
		{"type A{a:Z}}", api.ErrForm}, {"type A{n:Number n:Number", api.ErrForm}, {repeat("type A{n:Number}", api.MaxTypes+1) + "type", api.ErrForm},
		// Then what Check says.
		{"type A{a:Z}", api.ErrNone}, {"type A{l:[Z]}", api.ErrNone}, {"type A{l:[Number]}", api.ErrNone}, {"type A{l:[Text]}", api.ErrNone},
		{"type A{a:number}", api.ErrNone}, {"type A{id:Number}", api.ErrState}, {"type Number{n:Number}", api.ErrState},
		{"type Text{l:[Text]}", api.ErrState}, {"type A{n:Number n:Number}", api.ErrTwice},
		{"type A{n:Number}type A{m:Number}", api.ErrTwice}, {repeat("type A{n:Number}", api.MaxTypes+1), api.ErrMany},
		{"type A{a:A b:A c:A d:A e:A f:A g:A}", api.ErrMany},
	} {
		checkRead(t, c.s, nil, c.want)
	}
}

func TestC2Check(t *testing.T) {
	long := repeat("n", api.MaxName+1)
	for i, c := range []struct {
		l    []api.Type
		want api.Errno
	}{
		// How many types.
		{nil, api.ErrNone},
		{[]api.Type{}, api.ErrNone},
		{simple("A", "B", "C", "D", "E"), api.OK},
		{simple("A", "B", "C", "D", "E", "F"), api.ErrMany},
		{make([]api.Type, api.MaxTypes+1), api.ErrMany},
		{make([]api.Type, api.MaxTypes), api.ErrForm},
		// A type's name.
		{simple("9"), api.ErrForm},
		{simple("A-"), api.ErrForm},
		{simple(long[1:]), api.OK},
		{simple(long), api.ErrMany},
		{simple(repeat("$", api.MaxName+1)), api.ErrMany},
		{[]api.Type{{Name: "9"}}, api.ErrForm},
		{simple("Number"), api.ErrState},
		{simple("Text"), api.ErrState},
		{simple("Texts", "Numbers", "text", "number", "id"), api.OK},
		{[]api.Type{{Name: "Number"}}, api.ErrState},
		{simple("A", "B", "A"), api.ErrTwice},
		{simple("A", "a"), api.OK},
		{append(simple("A"), api.Type{Name: "A"}), api.ErrTwice},
		// How many fields.
		{of(), api.ErrNone},
		{of([]api.Field{}...), api.ErrNone},
		{of(number("a"), number("b"), number("c"), number("d"), number("e"), number("f")), api.OK},
		{of(number("a"), number("b"), number("c"), number("d"), number("e"), number("f"), number("g")), api.ErrMany},
		{of(make([]api.Field, api.MaxFields+1)...), api.ErrMany},
		{of(make([]api.Field, api.MaxFields)...), api.ErrForm},
		// A field's name.
		{of(number("")), api.ErrForm},
		{of(number("a b")), api.ErrForm},
		{of(number(long[1:])), api.OK},
		{of(number(long)), api.ErrMany},
		{of(api.Field{Name: "9", Kind: 9}), api.ErrForm},
		{of(number("id")), api.ErrState},
		{of(one("id", "Z")), api.ErrState},
		{of(api.Field{Name: "id", Kind: 9}), api.ErrState},
		{of(number("id"), number("id")), api.ErrState},
		{of(number("a"), number("b"), text("a")), api.ErrTwice},
		{of(number("a"), api.Field{Name: "a", Kind: 9}), api.ErrTwice},
		{of(number("a"), number("A"), number("ID")), api.OK},
		{[]api.Type{typed("A", number("a")), typed("B", number("a"))}, api.OK},
		// A field's kind, and what it is of.
		{of(field(0)), api.ErrKind},
		{of(field(-1)), api.ErrKind},
		{of(field(5)), api.ErrKind},
		{of(api.Field{Name: "f", Kind: 5, Of: "Z"}), api.ErrKind},
		{of(field(api.FieldNumber)), api.OK},
		{of(field(api.FieldText)), api.OK},
		{of(field(api.FieldOne)), api.ErrNone},
		{of(field(api.FieldMany)), api.ErrNone},
		{of(api.Field{Name: "f", Kind: api.FieldNumber, Of: "A"}), api.ErrForm},
		{of(api.Field{Name: "f", Kind: api.FieldText, Of: "Z"}), api.ErrForm},
		{of(one("f", "A")), api.OK},
		{of(many("f", "A")), api.OK},
		{of(one("f", "a")), api.ErrNone},
		{of(many("f", "Number")), api.ErrNone},
		{of(one("f", "Text")), api.ErrNone},
		{[]api.Type{typed("A", one("f", "B")), typed("B", many("f", "C")), typed("C", one("f", "A"))}, api.OK},
	} {
		checkCheck(t, i, c.l, c.want)
	}
}

// checkCheck that Check and Print answer an error.
func checkCheck(t *testing.T, i int, l []api.Type, want api.Errno) {
	t.Helper()
	if no := Check(l); no != want {
		t.Errorf("%d: Check(%v): %d, not %d", i, l, no, want)
	}
	if s, no := Print(l); no != want || (s == "") != (no != api.OK) {
		t.Errorf("%d: Print(%v): %q %d, not %d", i, l, s, no, want)
	}
}

// TestC2GoesTypeByTypeAndFieldByField: the first one that something is wrong with tells.
func TestC2GoesTypeByTypeAndFieldByField(t *testing.T) {
	for i, c := range []struct {
		l    []api.Type
		want api.Errno
	}{
		{append(of(one("f", "Z")), simple("9")...), api.ErrNone},
		{append(simple("9"), of(one("f", "Z"))...), api.ErrForm},
		{append(of(field(9)), simple("A")...), api.ErrKind},
		{append(of(), make([]api.Type, 4)...), api.ErrNone},
		{append(simple("A", "A"), api.Type{}), api.ErrTwice},
		{of(field(9), number("id")), api.ErrKind},
		{of(number("id"), field(9)), api.ErrState},
		{of(one("f", "Z"), number("f")), api.ErrNone},
		{of(number("f"), one("f", "Z")), api.ErrTwice},
		{of(api.Field{Name: "f", Kind: api.FieldText, Of: "A"}, field(9)), api.ErrForm},
		// A type behind counts, though something is wrong with it.
		{append(of(one("f", "Number")), simple("Number")...), api.ErrState},
		{append(of(one("f", "Number")), simple("B")...), api.ErrNone},
	} {
		checkCheck(t, i, c.l, c.want)
	}
}

func TestC2Print(t *testing.T) {
	for _, c := range []struct {
		l    []api.Type
		want string
	}{
		{of(number("n")), "type A { n : Number }"},
		{of(text("t"), one("a", "A"), many("l", "A")), "type A { t : Text a : A l : [ A ] }"},
		{[]api.Type{typed("A", one("b", "B")), typed("B", many("Number", "A"))}, "type A { b : B } type B { Number : [ A ] }"},
		{[]api.Type{typed("type", one("type", "type"))}, "type type { type : type }"},
	} {
		if s, no := Print(c.l); s != c.want || no != api.OK {
			t.Errorf("Print(%v): %q %d, not %q", c.l, s, no, c.want)
		}
	}
}

func TestP2WhatIsHandedInIsOnlyRead(t *testing.T) {
	fields := []api.Field{number("n"), number("spare")}
	list := []api.Type{typed("A", fields[:1]...), typed("spare")}
	wantFields, wantList := slices.Clone(fields), slices.Clone(list)
	Check(list[:1])
	Print(list[:1])
	if !reflect.DeepEqual(fields, wantFields) || !reflect.DeepEqual(list, wantList) {
		t.Errorf("it is %v of %v, and was %v of %v", list, fields, wantList, wantFields)
	}
}

func TestP2P3AnswersAreNew(t *testing.T) {
	const s = "type A{n:Number t:Text m:Number}type B{n:Number t:Text m:Number}"
	first, _ := Read(s)
	want, _ := Read(s)
	clear(first[0].Fields[:cap(first[0].Fields)])
	if !reflect.DeepEqual(first[1], want[1]) {
		t.Errorf("lists of one answer share memory: %v", first[1])
	}
	clear(first[:cap(first)])
	checkRead(t, s, want, api.OK)
	if want[1].Name != "B" {
		t.Errorf("two answers share memory: %v", want)
	}
}
