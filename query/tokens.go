package query

import (
	"slices"
	"strings"

	"halyard/api"
	"halyard/lex"
)

func nameToken(name string) api.Token {
	return api.Token{Kind: api.TokenName, Text: name}
}

func signToken(sign string) api.Token {
	return api.Token{Kind: api.TokenSign, Text: sign}
}

// valueToken of an arg. It has both of the arg's values, so that Check of chapter 1 tells of the one that may not be there.
func valueToken(a api.Arg) api.Token {
	kind := api.TokenNumber
	if a.IsText {
		kind = api.TokenText
	}
	return api.Token{Kind: kind, Text: a.Text, N: a.N}
}

// putList of selects behind the tokens so far.
func putList(tokens []api.Token, l []api.Select) []api.Token {
	tokens = append(tokens, signToken("{"))
	for _, s := range l {
		tokens = putSelect(tokens, s)
	}
	return append(tokens, signToken("}"))
}

func putSelect(tokens []api.Token, s api.Select) []api.Token {
	if s.Alias != "" {
		tokens = append(tokens, nameToken(s.Alias), signToken(":"))
	}
	tokens = append(tokens, nameToken(s.Name))
	if len(s.Args) > 0 {
		tokens = putArgs(tokens, s.Args)
	}
	if len(s.Kids) > 0 {
		tokens = putList(tokens, s.Kids)
	}
	return tokens
}

func putArgs(tokens []api.Token, l []api.Arg) []api.Token {
	tokens = append(tokens, signToken("("))
	for _, a := range l {
		tokens = append(tokens, nameToken(a.Name), signToken(":"), valueToken(a))
	}
	return append(tokens, signToken(")"))
}

// written: tokens as a text. A query may have more of them than Print of chapter 1 takes, so they go there piece by piece.
func written(tokens []api.Token) (string, api.Errno) {
	var pieces []string
	for piece := range slices.Chunk(tokens, api.MaxTokens) {
		text, no := lex.Print(piece)
		if no != api.OK {
			return "", no
		}
		pieces = append(pieces, text)
	}
	return strings.Join(pieces, " "), api.OK
}
