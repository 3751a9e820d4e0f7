package schema

import (
	"math/rand"
	"regexp"
	"strconv"
	"strings"
	"testing"

	"halyard/api"
	"halyard/lex"
)

// refForm tells whether tokens, a byte each (t the word type, n another name), are a schema.
var refForm = regexp.MustCompile(`^([t][tn]\{([tn]:([tn]|\[[tn]\]))+\})+$`)

// TestC1AllShortSchemas of tokens, against another way to tell their form.
func TestC1AllShortSchemas(t *testing.T) {
	var grow func(form, text string, left int)
	grow = func(form, text string, left int) {
		_, no := Read(text)
		if fits := refForm.MatchString(form); fits != (no != api.ErrForm) {
			t.Fatalf("Read(%q): %d, but its form fits: %v", text, no, fits)
		}
		if left == 0 {
			return
		}
		for _, c := range "tn{}:[]1" {
			token := string(c)
			switch c {
			case 't':
				token = "type"
			case 'n':
				token = "n" + strconv.Itoa(left)
			}
			grow(form+string(c), text+" "+token, left-1)
		}
	}
	grow("", "", 5)
	// Longer ones begin as a schema does.
	grow("tn{n:", "type A{a:", 5)
	grow("tn{n:n", "type A{a:A", 5)
	grow("tn{n:[n]", "type A{a:[A]", 5)
	grow("tn{n:n}tn{n", "type A{a:A}type B{a", 5)
}

func randomName(r *rand.Rand) string {
	b := []byte{"azAZ_"[r.Intn(5)]}
	for range r.Intn(api.MaxName) {
		b = append(b, "azAZ_09"[r.Intn(7)])
	}
	return string(b)
}

func randomSchema(r *rand.Rand) []api.Type {
	l := make([]api.Type, 1+r.Intn(api.MaxTypes))
	for i := range l {
		l[i].Name = randomName(r)
	}
	for i := range l {
		for range 1 + r.Intn(api.MaxFields) {
			f := api.Field{Name: randomName(r), Kind: 1 + r.Intn(4)}
			if f.Kind == api.FieldOne || f.Kind == api.FieldMany {
				f.Of = l[r.Intn(len(l))].Name
			}
			l[i].Fields = append(l[i].Fields, f)
		}
	}
	return l
}

func TestC3WhatIsPrintedIsReadAsItWas(t *testing.T) {
	r := rand.New(rand.NewSource(5))
	whole := 0
	for range 5000 {
		l := randomSchema(r)
		s, no := Print(l)
		if no != Check(l) {
			t.Fatalf("Print(%v): %d", l, no)
		}
		if no != api.OK {
			continue
		}
		whole++
		checkRead(t, s, l, api.OK)
		tokens, _ := lex.Read(s)
		if again, _ := lex.Print(tokens); again != s {
			t.Fatalf("%q is not as Print of chapter 1 writes it: %q", s, again)
		}
	}
	if whole < 1000 {
		t.Errorf("only %d schemas were read again", whole)
	}
}

// TestC3TheGreatestSchema is not too long to be read again.
func TestC3TheGreatestSchema(t *testing.T) {
	name := func(c byte) string { return strings.Repeat("x", api.MaxName-1) + string([]byte{c}) }
	var l []api.Type
	for i := range api.MaxTypes {
		typ := api.Type{Name: name('A' + byte(i))}
		for j := range api.MaxFields {
			typ.Fields = append(typ.Fields, many(name('a'+byte(j)), name('A')))
		}
		l = append(l, typ)
	}
	s, no := Print(l)
	if no != api.OK {
		t.Fatalf("Print: %d", no)
	}
	checkRead(t, s, l, api.OK)
}

// TestP1WhateverItIsHanded ends, and answers nothing beside an error.
func TestP1WhateverItIsHanded(t *testing.T) {
	r := rand.New(rand.NewSource(6))
	pieces := []string{"type ", "type A{", "type B{", "n:Number ", "m:[A]", "o:B ", "}", "}", "{", ":", "[", "]", "A ", `"t"`, "1 ", "$"}
	for range 20000 {
		var b strings.Builder
		for range r.Intn(12) {
			b.WriteString(pieces[r.Intn(len(pieces))])
		}
		l, no := Read(b.String())
		if no != api.OK && l != nil || no == api.OK && Check(l) != api.OK {
			t.Fatalf("Read(%q): %v %d", b.String(), l, no)
		}
	}
}
