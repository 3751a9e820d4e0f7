// Package lex: tokens: see doc/01-lex.md.
package lex

import (
	"strconv"
	"strings"

	"halyard/api"
	"halyard/parse"
)

// Read a text.
func Read(s string) ([]api.Token, api.Errno) {
	if len(s) > api.MaxText {
		return nil, api.ErrMany
	}
	r := reader{Text: parse.NewText(s)}
	if no := parse.Caught(r.all); no != api.OK {
		return nil, no
	}
	return r.tokens, api.OK
}

// Check tokens.
func Check(l []api.Token) api.Errno {
	if len(l) > api.MaxTokens {
		return api.ErrMany
	}
	for _, t := range l {
		if no := wrong(t); no != api.OK {
			return no
		}
	}
	return api.OK
}

// Print tokens.
func Print(l []api.Token) (string, api.Errno) {
	if no := Check(l); no != api.OK {
		return "", no
	}
	var b strings.Builder
	for i, t := range l {
		if i > 0 {
			b.WriteByte(' ')
		}
		b.WriteString(written(t))
	}
	return b.String(), api.OK
}

func written(t api.Token) string {
	switch t.Kind {
	case api.TokenNumber:
		return strconv.Itoa(t.N)
	case api.TokenText:
		return quoted(t.Text)
	}
	return t.Text
}

func quoted(text string) string {
	b := []byte{'"'}
	for i := range len(text) {
		switch c := text[i]; c {
		case '"', '\\':
			b = append(b, '\\', c)
		case '\n':
			b = append(b, '\\', 'n')
		default:
			b = append(b, c)
		}
	}
	return string(append(b, '"'))
}
