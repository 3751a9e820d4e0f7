package lex

import (
	"strconv"
	"strings"

	"halyard/api"
	"halyard/parse"
)

const maxDigits = 9

// reader of a text: how far it is, and the tokens so far. It panics with a parse.Fault where it can't go on.
type reader struct {
	text   string
	at     int
	tokens []api.Token
}

func (r *reader) all() {
	for r.passBlank(); !r.ended(); r.passBlank() {
		t := r.token()
		if no := wrong(t); no != api.OK {
			panic(parse.Fault(no))
		}
		// Behind the above: what is wrong with the token itself comes first.
		if len(r.tokens) == api.MaxTokens {
			panic(parse.Fault(api.ErrMany))
		}
		r.tokens = append(r.tokens, t)
	}
}

func (r *reader) ended() bool {
	return r.at == len(r.text)
}

// pass the bytes that may be passed, as long as they go, and answer them.
func (r *reader) pass(may func(c byte) bool) string {
	from := r.at
	for !r.ended() && may(r.text[r.at]) {
		r.at++
	}
	return r.text[from:r.at]
}

// passBlank passes all that stands between tokens.
func (r *reader) passBlank() {
	for {
		r.pass(func(c byte) bool {
			return c == '\t' || c == '\n' || c == '\r' || c == ' ' || c == ','
		})
		if r.ended() || r.text[r.at] != '#' {
			return
		}
		r.pass(func(c byte) bool { return c != '\n' })
	}
}

func (r *reader) token() api.Token {
	c := r.text[r.at]
	switch {
	case begins(c):
		// A clone: a piece of the text would keep all of it.
		return api.Token{Kind: api.TokenName, Text: strings.Clone(r.pass(goesOn))}
	case c == '-' || isDigit(c):
		return api.Token{Kind: api.TokenNumber, N: r.number()}
	case c == '"':
		return api.Token{Kind: api.TokenText, Text: r.words()}
	case isSign(c):
		r.at++
		return api.Token{Kind: api.TokenSign, Text: string([]byte{c})}
	}
	panic(parse.Fault(api.ErrForm))
}

func (r *reader) number() int {
	minus := r.text[r.at] == '-'
	if minus {
		r.at++
	}
	digits := r.pass(isDigit)
	if !isNumber(minus, digits) {
		panic(parse.Fault(api.ErrForm))
	}
	n, err := strconv.Atoi(digits)
	if err != nil {
		panic(parse.Fault(api.ErrForm))
	}
	if minus {
		return -n
	}
	return n
}

func isNumber(minus bool, digits string) bool {
	if digits == "" || len(digits) > maxDigits {
		return false
	}
	return digits[0] != '0' || digits == "0" && !minus
}

// words that a text tells. It is gone through whole, however long: where it does not end, it is no text, and so not one that tells too much.
func (r *reader) words() string {
	r.at++
	var told []byte
	for {
		told = append(told, r.pass(func(c byte) bool {
			return c != '"' && c != '\\' && c != '\n'
		})...)
		switch r.next() {
		case '"':
			return string(told)
		case '\\':
			told = append(told, r.escaped())
		default:
			panic(parse.Fault(api.ErrForm))
		}
	}
}

// escaped is the byte that is told behind a `\`.
func (r *reader) escaped() byte {
	switch c := r.next(); c {
	case '"', '\\':
		return c
	case 'n':
		return '\n'
	}
	panic(parse.Fault(api.ErrForm))
}

func (r *reader) next() byte {
	if r.ended() {
		panic(parse.Fault(api.ErrForm))
	}
	c := r.text[r.at]
	r.at++
	return c
}
