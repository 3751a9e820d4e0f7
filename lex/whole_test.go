package lex

import (
	"math/rand"
	"regexp"
	"slices"
	"strconv"
	"strings"
	"testing"

	"halyard/api"
)

var (
	refBlank  = regexp.MustCompile(`^(?:[\t\n\r ,]|#[^\n]*)+`)
	refName   = regexp.MustCompile(`^[A-Za-z_][A-Za-z0-9_]*`)
	refDigits = regexp.MustCompile(`^-?[0-9]+`)
	refNumber = regexp.MustCompile(`^(?:0|-?[1-9][0-9]{0,8})$`)
	refText   = regexp.MustCompile(`^"(?:[^"\\\n]|\\["\\n])*"`)
	refSign   = regexp.MustCompile(`^[{}():\[\]]`)
	refTold   = strings.NewReplacer(`\"`, `"`, `\\`, `\`, `\n`, "\n")
)

// refRead reads short texts as A1 says, in another way.
func refRead(s string) ([]api.Token, api.Errno) {
	var l []api.Token
	for {
		s = s[len(refBlank.FindString(s)):]
		if s == "" {
			return l, api.OK
		}
		var piece string
		if piece = refName.FindString(s); piece != "" {
			l = append(l, name(piece))
		} else if piece = refDigits.FindString(s); refNumber.MatchString(piece) {
			n, _ := strconv.Atoi(piece)
			l = append(l, number(n))
		} else if piece != "" {
			return nil, api.ErrForm
		} else if piece = refText.FindString(s); piece != "" {
			l = append(l, words(refTold.Replace(piece[1:len(piece)-1])))
		} else if piece = refSign.FindString(s); piece != "" {
			l = append(l, sign(piece))
		} else {
			return nil, api.ErrForm
		}
		s = s[len(piece):]
	}
}

// TestA1AllShortTexts of some bytes, against another reader.
func TestA1AllShortTexts(t *testing.T) {
	const alphabet = "an_10-\"\\\n #:$"
	var grow func(s string, left int)
	grow = func(s string, left int) {
		want, wantNo := refRead(s)
		checkRead(t, s, want, wantNo)
		if left == 0 || t.Failed() {
			return
		}
		for i := range len(alphabet) {
			grow(s+alphabet[i:i+1], left-1)
		}
	}
	grow("", 4)
}

// TestA1EachByte by itself, behind a name, and told in a text.
func TestA1EachByte(t *testing.T) {
	for c := range 256 {
		b := string([]byte{byte(c)})
		for _, s := range []string{b, "a" + b, "1" + b, `"` + b + `"`, `"\` + b + `"`} {
			want, wantNo := refRead(s)
			checkRead(t, s, want, wantNo)
		}
	}
}

func randomToken(r *rand.Rand) api.Token {
	const lead = "azAZ_"
	switch r.Intn(4) {
	case 0:
		b := []byte{lead[r.Intn(len(lead))]}
		for range r.Intn(api.MaxName) {
			b = append(b, (lead + "09")[r.Intn(len(lead)+2)])
		}
		return name(string(b))
	case 1:
		return number((r.Intn(2*api.MaxInt+1) - api.MaxInt) / []int{1, 10, 1000, 100000000}[r.Intn(4)])
	case 2:
		b := make([]byte, r.Intn(api.MaxWords+1))
		for i := range b {
			b[i] = []byte{'"', '\\', '\n', 'n', '#', byte(r.Intn(256))}[r.Intn(6)]
		}
		return words(string(b))
	}
	i := r.Intn(len(signs))
	return sign(signs[i : i+1])
}

func TestA3WhatIsPrintedIsReadAsItWas(t *testing.T) {
	r := rand.New(rand.NewSource(1))
	for range 5000 {
		var l []api.Token
		for range r.Intn(30) {
			l = append(l, randomToken(r))
		}
		s, no := Print(l)
		if no != api.OK {
			t.Fatalf("Print(%v): %d", l, no)
		}
		checkRead(t, s, l, api.OK)
	}
	l := slices.Repeat([]api.Token{number(1)}, api.MaxTokens)
	s, _ := Print(l)
	checkRead(t, s, l, api.OK)
}

// TestP1WhateverItIsHanded ends, and answers nothing beside an error.
func TestP1WhateverItIsHanded(t *testing.T) {
	r := rand.New(rand.NewSource(2))
	for range 20000 {
		b := make([]byte, r.Intn(40))
		for i := range b {
			b[i] = []byte{'"', '\\', '\n', '#', 'a', '-', '1', ':', byte(r.Intn(256))}[r.Intn(9)]
		}
		l, no := Read(string(b))
		if no != api.OK && l != nil {
			t.Fatalf("Read(%q): %v %d", b, l, no)
		}
		if Check(l) != api.OK {
			t.Fatalf("Read(%q): %v, which is not right", b, l)
		}
	}
}
