package parse

import (
	"slices"

	"halyard/api"
)

// Line is tokens that are gone through from the first one on. Where its calls find something else than they must, they panic with a Fault of ErrForm.
type Line struct {
	rest []api.Token
}

// NewLine of tokens, which are only read.
func NewLine(tokens []api.Token) *Line {
	return &Line{rest: tokens}
}

// Take the next token, which must be of one of the kinds.
func (l *Line) Take(kinds ...int) api.Token {
	if l.Ended() || !slices.Contains(kinds, l.rest[0].Kind) {
		panic(Fault(api.ErrForm))
	}
	t := l.rest[0]
	l.rest = l.rest[1:]
	return t
}

// Sign that must come next.
func (l *Line) Sign(sign string) {
	if !l.Skip(sign) {
		panic(Fault(api.ErrForm))
	}
}

// Skip a sign, if it comes next: whether it did.
func (l *Line) Skip(sign string) bool {
	if l.Ended() || l.rest[0].Kind != api.TokenSign || l.rest[0].Text != sign {
		return false
	}
	l.rest = l.rest[1:]
	return true
}

// Word that must come next: a name, and that one.
func (l *Line) Word(word string) {
	if l.Take(api.TokenName).Text != word {
		panic(Fault(api.ErrForm))
	}
}

// Ended: whether no token is left.
func (l *Line) Ended() bool {
	return len(l.rest) == 0
}

// End of the line, which must be reached.
func (l *Line) End() {
	if !l.Ended() {
		panic(Fault(api.ErrForm))
	}
}
