package parse

import (
	"testing"

	"halyard/api"
)

func isA(c byte) bool { return c == 'a' }

func TestText(t *testing.T) {
	for i, c := range []struct {
		text string
		do   func(s *Text)
		want api.Errno
	}{
		{"", func(s *Text) { s.End() }, api.OK},
		{"", func(s *Text) { s.Peek() }, api.ErrForm},
		{"", func(s *Text) { s.Next() }, api.ErrForm},
		{"", func(s *Text) { s.Piece("a") }, api.ErrForm},
		{"", func(s *Text) { s.Piece(""); s.End() }, api.OK},
		{"a", func(s *Text) { s.End() }, api.ErrForm},
		{"a", func(s *Text) { s.Piece("ab") }, api.ErrForm},
		{"ab", func(s *Text) { s.Piece("b") }, api.ErrForm},
		{"ab", func(s *Text) { s.Piece("a"); s.Piece("b"); s.End() }, api.OK},
		{"a\x00", func(s *Text) {
			if s.Peek() != 'a' || s.Peek() != 'a' || s.Next() != 'a' || s.Ended() || s.Next() != 0 || !s.Ended() {
				t.Error("other bytes came")
			}
		}, api.OK},
		{"abc", func(s *Text) {
			if s.Skip("b") || s.Skip("abcd") || !s.Skip("ab") || s.Skip("ab") || !s.Skip("c") || s.Skip("c") {
				t.Error("another piece was skipped")
			}
			s.End()
		}, api.OK},
		{"aab", func(s *Text) {
			if s.Pass(isA) != "aa" || s.Pass(isA) != "" || s.Next() != 'b' || s.Pass(isA) != "" {
				t.Error("other bytes were passed")
			}
			s.End()
		}, api.OK},
		{"a\"\x00b", func(s *Text) {
			if s.Take(0) != "" || s.Take(3) != "a\"\x00" || s.Take(1) != "b" || s.Take(0) != "" {
				t.Error("other bytes were taken")
			}
			s.End()
		}, api.OK},
		{"", func(s *Text) { s.Take(1) }, api.ErrForm},
		{"ab", func(s *Text) { s.Take(3) }, api.ErrForm},
		{"ab", func(s *Text) { s.Take(1); s.Take(2) }, api.ErrForm},
	} {
		text := NewText(c.text)
		if no := Caught(func() { c.do(text) }); no != c.want {
			t.Errorf("%d: %d, not %d", i, no, c.want)
		}
	}
}

func TestTextNumber(t *testing.T) {
	for _, c := range []struct {
		text string
		n    int
		rest string
		want api.Errno
	}{
		{"0", 0, "", api.OK}, {"7", 7, "", api.OK}, {"-7x", -7, "x", api.OK}, {"10-1", 10, "-1", api.OK}, {"1.5", 1, ".5", api.OK},
		{"999999999", 999999999, "", api.OK}, {"-999999999", -999999999, "", api.OK},
		{"", 0, "", api.ErrForm}, {"-", 0, "", api.ErrForm}, {"-0", 0, "", api.ErrForm}, {"00", 0, "", api.ErrForm}, {"01", 0, "", api.ErrForm},
		{"-01", 0, "", api.ErrForm}, {"1234567890", 0, "", api.ErrForm}, {"--1", 0, "", api.ErrForm}, {"+1", 0, "", api.ErrForm}, {"x", 0, "", api.ErrForm},
	} {
		text := NewText(c.text)
		n := 0
		no := Caught(func() { n = text.Number() })
		if no != c.want || n != c.n || no == api.OK && text.rest != c.rest {
			t.Errorf("Number(%q): %d %d and %q, not %d %d and %q", c.text, n, no, text.rest, c.n, c.want, c.rest)
		}
	}
}

func TestTextQuoted(t *testing.T) {
	for _, c := range []struct {
		text, tells, rest string
		want              api.Errno
	}{
		{`""`, "", "", api.OK}, {`"a"b`, "a", "b", api.OK}, {`"aa""`, "aa", `"`, api.OK}, {`"\b\"a"`, `b"a`, "", api.OK}, {`"\\"`, `\`, "", api.OK},
		{"", "", "", api.ErrForm}, {"a", "", "", api.ErrForm}, {`"`, "", "", api.ErrForm}, {`"a`, "", "", api.ErrForm}, {`"b"`, "", "", api.ErrForm},
		{`"\`, "", "", api.ErrForm}, {`"\"`, "", "", api.ErrForm}, {` "a"`, "", "", api.ErrForm},
	} {
		text := NewText(c.text)
		tells := ""
		no := Caught(func() { tells = text.Quoted(isA, text.Next) })
		if no != c.want || tells != c.tells || no == api.OK && text.rest != c.rest {
			t.Errorf("Quoted(%q): %q %d and %q, not %q %d and %q", c.text, tells, no, text.rest, c.tells, c.want, c.rest)
		}
	}
}
