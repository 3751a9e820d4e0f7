package tokens

import (
	"strings"
	"testing"

	"halyard/api"
)

func TestWrongName(t *testing.T) {
	long := strings.Repeat("n", api.MaxName+1)
	for _, c := range []struct {
		name string
		want api.Errno
	}{
		{"a", api.OK}, {"_9Z", api.OK}, {long[1:], api.OK},
		{"", api.ErrForm}, {"9", api.ErrForm}, {"a b", api.ErrForm}, {"{", api.ErrForm},
		{long, api.ErrMany}, {strings.Repeat("$", api.MaxName+1), api.ErrMany},
	} {
		if no := WrongName(c.name); no != c.want {
			t.Errorf("WrongName(%q): %d, not %d", c.name, no, c.want)
		}
	}
}

func TestRow(t *testing.T) {
	var row Row
	check := func(want string, wantNo api.Errno) {
		t.Helper()
		if s, no := row.Text(); s != want || no != wantNo {
			t.Errorf("Text: %.80q %d, not %.80q %d", s, no, want, wantNo)
		}
	}
	check("", api.OK)
	row.Put()
	check("", api.OK)
	row.Put(Name("a"))
	check("a", api.OK)
	row.Put(Sign("{"), api.Token{Kind: api.TokenNumber, N: -1}, api.Token{Kind: api.TokenText, Text: "\n"})
	check(`a { -1 "\n"`, api.OK)
	for range api.MaxTokens {
		row.Put(Sign(":"))
	}
	check(`a { -1 "\n"`+strings.Repeat(" :", api.MaxTokens), api.OK)
	row.Put(Name("9"))
	check("", api.ErrForm)
}

// TestRowKeepsItsOwnTokens: those that were put may be changed behind that.
func TestRowKeepsItsOwnTokens(t *testing.T) {
	room := []api.Token{Name("a"), Name("b")}
	var row Row
	row.Put(room[:1]...)
	row.Put(Sign(":"))
	if room[1] != Name("b") {
		t.Errorf("the spare room was written to: %v", room)
	}
	room[0] = Name("c")
	if s, _ := row.Text(); s != "a :" {
		t.Errorf("Text: %q", s)
	}
}
