package query

import (
	"math/rand"
	"regexp"
	"strconv"
	"strings"
	"testing"

	"halyard/api"
	"halyard/lex"
)

var (
	refArgs = regexp.MustCompile(`\((?:n:v)+\)`)
	refKids = regexp.MustCompile(`\{(?:n(?::n)?A?K?)+\}`)
)

// refForm: whether tokens, a byte each (n a name, v a number or a text), are a query: what is innermost is put together first.
func refForm(s string) bool {
	s = refArgs.ReplaceAllString(s, "A")
	for {
		t := refKids.ReplaceAllString(s, "K")
		if t == s {
			return s == "K"
		}
		s = t
	}
}

// TestB1AllShortQueries of tokens, against another way to tell their form; every name is another one, so nothing is there twice.
func TestB1AllShortQueries(t *testing.T) {
	var grow func(form, text string, left int)
	grow = func(form, text string, left int) {
		want := api.ErrForm
		if refForm(form) {
			want = api.OK
		}
		if _, no := Read(text); no != want {
			t.Fatalf("Read(%q): %d, not %d", text, no, want)
		}
		if left == 0 {
			return
		}
		for _, c := range "nv{}():[" {
			token := string(c)
			switch c {
			case 'n':
				token = "n" + strconv.Itoa(left)
			case 'v':
				token = []string{"7", `"7"`}[left%2]
			}
			grow(form+string(c), text+" "+token, left-1)
		}
	}
	grow("", "", 6)
	// Longer ones begin as a query does.
	grow("{n(n:", "{a(b:", 5)
	grow("{n:n{n", "{a:b{c", 5)
	grow("{n(n:v){n}", "{a(b:1){c}", 5)
}

func randomName(r *rand.Rand) string {
	b := []byte{"azAZ_"[r.Intn(5)]}
	for range r.Intn(api.MaxName) {
		b = append(b, "azAZ_09"[r.Intn(7)])
	}
	return string(b)
}

func randomArg(r *rand.Rand) api.Arg {
	if r.Intn(2) == 0 {
		return api.Arg{Name: randomName(r), N: r.Intn(2*api.MaxInt+1) - api.MaxInt}
	}
	b := make([]byte, r.Intn(api.MaxWords+1))
	for i := range b {
		b[i] = []byte{'"', '\\', '\n', byte(r.Intn(256))}[r.Intn(4)]
	}
	return api.Arg{Name: randomName(r), IsText: true, Text: string(b)}
}

func randomList(r *rand.Rand, depth int) []api.Select {
	var l []api.Select
	for range 1 + r.Intn(4) {
		s := api.Select{Name: randomName(r)}
		if r.Intn(3) == 0 {
			s.Alias = randomName(r)
		}
		for range r.Intn(3) * r.Intn(4) {
			s.Args = append(s.Args, randomArg(r))
		}
		if depth < api.MaxDepth && r.Intn(3) == 0 {
			s.Kids = randomList(r, depth+1)
		}
		l = append(l, s)
	}
	return l
}

func TestB3WhatIsPrintedIsReadAsItWas(t *testing.T) {
	r := rand.New(rand.NewSource(3))
	whole := 0
	for range 5000 {
		l := randomList(r, 1)
		s, no := Print(l)
		if no != Check(l) {
			t.Fatalf("Print(%v): %d", l, no)
		}
		// Chapter 1 reads no longer texts.
		if no != api.OK || len(s) > api.MaxText {
			continue
		}
		whole++
		checkRead(t, s, l, api.OK)
		tokens, _ := lex.Read(s)
		if again, _ := lex.Print(tokens); again != s {
			t.Fatalf("%q is not as Print of chapter 1 writes it: %q", s, again)
		}
	}
	if whole < 1000 {
		t.Errorf("only %d queries were read again", whole)
	}
}

// TestB3TooLongToBeReadAgain: what is printed may be more than chapter 1 reads, and Read says so.
func TestB3TooLongToBeReadAgain(t *testing.T) {
	s, _ := Print(full())
	if !strings.HasPrefix(s, "{ n0 (") {
		t.Fatalf("%.80q", s)
	}
	checkRead(t, s, nil, api.ErrMany)
}

// TestP1WhateverItIsHanded ends, and answers nothing beside an error.
func TestP1WhateverItIsHanded(t *testing.T) {
	r := rand.New(rand.NewSource(4))
	pieces := []string{"{", "{a", "}", "(", ")", ":", "a", "b", "(i:1)", `"t"`, "1", "$", "\n", "["}
	for range 20000 {
		var b strings.Builder
		for range r.Intn(20) {
			b.WriteString(pieces[r.Intn(len(pieces))])
		}
		l, no := Read(b.String())
		if no != api.OK && l != nil || no == api.OK && Check(l) != api.OK {
			t.Fatalf("Read(%q): %v %d", b.String(), l, no)
		}
	}
}
