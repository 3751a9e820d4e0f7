package lex

import (
	"strings"

	"halyard/api"
	"halyard/parse"
)

// reader of a text: what is left of it, and the tokens so far. It panics with a parse.Fault where it can't go on.
type reader struct {
	*parse.Text
	tokens []api.Token
}

func (r *reader) all() {
	for r.passBlank(); !r.Ended(); r.passBlank() {
		t := r.token()
		if no := wrong(t); no != api.OK {
			panic(parse.Fault(no))
		}
		// Behind the above: what is wrong with the token itself comes first.
		if len(r.tokens) == api.MaxTokens {
			panic(parse.Fault(api.ErrMany))
		}
		r.tokens = append(r.tokens, t)
	}
}

// passBlank passes all that stands between tokens.
func (r *reader) passBlank() {
	for {
		r.Pass(func(c byte) bool {
			return c == '\t' || c == '\n' || c == '\r' || c == ' ' || c == ','
		})
		if !r.Skip("#") {
			return
		}
		r.Pass(func(c byte) bool { return c != '\n' })
	}
}

func (r *reader) token() api.Token {
	c := r.Peek()
	switch {
	case begins(c):
		// A clone: a piece of the text would keep all of it.
		return api.Token{Kind: api.TokenName, Text: strings.Clone(r.Pass(goesOn))}
	case c == '-' || parse.IsDigit(c):
		return api.Token{Kind: api.TokenNumber, N: r.Number()}
	case c == '"':
		alone := func(c byte) bool { return c != '\n' }
		return api.Token{Kind: api.TokenText, Text: r.Quoted(alone, r.escaped)}
	case isSign(c):
		return api.Token{Kind: api.TokenSign, Text: string([]byte{r.Next()})}
	}
	panic(parse.Fault(api.ErrForm))
}

// escaped is the byte that is told behind a `\`.
func (r *reader) escaped() byte {
	switch c := r.Next(); c {
	case '"', '\\':
		return c
	case 'n':
		return '\n'
	}
	panic(parse.Fault(api.ErrForm))
}
