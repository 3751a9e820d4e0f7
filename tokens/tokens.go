// Package tokens has what the writers share: tokens that are put one behind another, and their text.
package tokens

import (
	"slices"
	"strings"

	"halyard/api"
	"halyard/lex"
)

// Name as a token.
func Name(name string) api.Token {
	return api.Token{Kind: api.TokenName, Text: name}
}

// Sign as a token.
func Sign(sign string) api.Token {
	return api.Token{Kind: api.TokenSign, Text: sign}
}

// WrongName: what is wrong with a name, as of chapter 1.
func WrongName(name string) api.Errno {
	return lex.Check([]api.Token{Name(name)})
}

// Row of tokens; that without any is ready for use.
type Row struct {
	tokens []api.Token
}

// Put tokens behind those that are there.
func (r *Row) Put(tokens ...api.Token) {
	r.tokens = append(r.tokens, tokens...)
}

// Text of the row. It may have more tokens than Print of chapter 1 takes, so they go there piece by piece.
func (r *Row) Text() (string, api.Errno) {
	var pieces []string
	for piece := range slices.Chunk(r.tokens, api.MaxTokens) {
		text, no := lex.Print(piece)
		if no != api.OK {
			return "", no
		}
		pieces = append(pieces, text)
	}
	return strings.Join(pieces, " "), api.OK
}
