package lex

import (
	"strings"

	"halyard/api"
	"halyard/parse"
	"halyard/parts"
)

const signs = "{}():[]"

// wrong: what is wrong with a token.
func wrong(t api.Token) api.Errno {
	switch t.Kind {
	case api.TokenName:
		return wrongName(t)
	case api.TokenNumber:
		return wrongNumber(t)
	case api.TokenText:
		return wrongText(t)
	case api.TokenSign:
		return wrongSign(t)
	}
	return api.ErrKind
}

func wrongName(t api.Token) api.Errno {
	switch {
	case t.N != 0:
		return api.ErrForm
	case len(t.Text) > api.MaxName:
		return api.ErrMany
	case !isName(t.Text):
		return api.ErrForm
	}
	return api.OK
}

func wrongNumber(t api.Token) api.Errno {
	switch {
	case t.Text != "":
		return api.ErrForm
	case !parts.IsInt(t.N):
		return api.ErrRange
	}
	return api.OK
}

func wrongText(t api.Token) api.Errno {
	switch {
	case t.N != 0:
		return api.ErrForm
	case len(t.Text) > api.MaxWords:
		return api.ErrMany
	}
	return api.OK
}

func wrongSign(t api.Token) api.Errno {
	if t.N != 0 || len(t.Text) != 1 || !isSign(t.Text[0]) {
		return api.ErrForm
	}
	return api.OK
}

func isName(s string) bool {
	for i := range len(s) {
		if !goesOn(s[i]) {
			return false
		}
	}
	return s != "" && begins(s[0])
}

// begins: whether a name may begin with c.
func begins(c byte) bool {
	return 'a' <= c && c <= 'z' || 'A' <= c && c <= 'Z' || c == '_'
}

// goesOn: whether a name may go on with c.
func goesOn(c byte) bool {
	return begins(c) || parse.IsDigit(c)
}

func isSign(c byte) bool {
	return strings.IndexByte(signs, c) >= 0
}
