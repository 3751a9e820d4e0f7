package parse

import (
	"errors"
	"testing"

	"halyard/api"
)

func TestCaughtAnswersWhatWasGivenUpWith(t *testing.T) {
	if no := Caught(func() {}); no != api.OK {
		t.Errorf("work that is done: %d", no)
	}
	for _, want := range []api.Errno{api.ErrForm, api.ErrMany, api.ErrKind} {
		if no := Caught(func() { panic(Fault(want)) }); no != want {
			t.Errorf("given up with %d: %d", want, no)
		}
	}
}

func TestCaughtLetsOtherPanicsThrough(t *testing.T) {
	other := errors.New("other")
	defer func() {
		if r := recover(); r != other {
			t.Errorf("came through: %v", r)
		}
	}()
	Caught(func() { panic(other) })
}

func TestFaultIsAnError(t *testing.T) {
	var err error = Fault(api.ErrMany)
	if err.Error() != "halyard: gave up with error 2" {
		t.Errorf("%q", err.Error())
	}
}

func TestLine(t *testing.T) {
	name, number := api.Token{Kind: api.TokenName, Text: "a"}, api.Token{Kind: api.TokenNumber, N: 1}
	colon := api.Token{Kind: api.TokenSign, Text: ":"}
	brace := api.Token{Kind: api.TokenText, Text: "{"}
	for i, c := range []struct {
		tokens []api.Token
		do     func(l *Line)
		want   api.Errno
	}{
		{nil, func(l *Line) { l.End() }, api.OK},
		{nil, func(l *Line) { l.Take(api.TokenName) }, api.ErrForm},
		{nil, func(l *Line) { l.Sign(":") }, api.ErrForm},
		{[]api.Token{name}, func(l *Line) { l.End() }, api.ErrForm},
		{[]api.Token{name}, func(l *Line) { l.Take() }, api.ErrForm},
		{[]api.Token{name}, func(l *Line) { l.Take(api.TokenNumber, api.TokenText) }, api.ErrForm},
		{[]api.Token{name, number}, func(l *Line) {
			if l.Take(api.TokenName) != name || l.Take(api.TokenText, api.TokenNumber) != number {
				t.Error("other tokens were taken")
			}
			l.End()
		}, api.OK},
		{[]api.Token{name}, func(l *Line) { l.Word("a"); l.End() }, api.OK},
		{[]api.Token{name}, func(l *Line) { l.Word("b") }, api.ErrForm},
		{[]api.Token{brace}, func(l *Line) { l.Word("{") }, api.ErrForm},
		{nil, func(l *Line) { l.Word("") }, api.ErrForm},
		{[]api.Token{name}, func(l *Line) {
			if l.Ended() {
				t.Error("ended ahead of a token")
			}
			l.Take(api.TokenName)
			if !l.Ended() {
				t.Error("not ended behind the last token")
			}
		}, api.OK},
		{[]api.Token{colon}, func(l *Line) { l.Sign(":"); l.End() }, api.OK},
		{[]api.Token{colon}, func(l *Line) { l.Sign("{") }, api.ErrForm},
		{[]api.Token{brace}, func(l *Line) { l.Sign("{") }, api.ErrForm},
		{[]api.Token{colon}, func(l *Line) {
			if l.Skip("{") || !l.Skip(":") || l.Skip(":") {
				t.Error("another sign was skipped")
			}
			l.End()
		}, api.OK},
	} {
		line := NewLine(c.tokens)
		if no := Caught(func() { c.do(line) }); no != c.want {
			t.Errorf("%d: %d, not %d", i, no, c.want)
		}
	}
}
