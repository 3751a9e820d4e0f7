package query

import (
	"halyard/api"
	"halyard/tokens"
)

// valueToken of an arg. It has both of the arg's values, so that Check of chapter 1 tells of the one that may not be there.
func valueToken(a api.Arg) api.Token {
	kind := api.TokenNumber
	if a.IsText {
		kind = api.TokenText
	}
	return api.Token{Kind: kind, Text: a.Text, N: a.N}
}

func putList(row *tokens.Row, l []api.Select) {
	row.Put(tokens.Sign("{"))
	for _, s := range l {
		putSelect(row, s)
	}
	row.Put(tokens.Sign("}"))
}

func putSelect(row *tokens.Row, s api.Select) {
	if s.Alias != "" {
		row.Put(tokens.Name(s.Alias), tokens.Sign(":"))
	}
	row.Put(tokens.Name(s.Name))
	if len(s.Args) > 0 {
		putArgs(row, s.Args)
	}
	if len(s.Kids) > 0 {
		putList(row, s.Kids)
	}
}

func putArgs(row *tokens.Row, l []api.Arg) {
	row.Put(tokens.Sign("("))
	for _, a := range l {
		row.Put(tokens.Name(a.Name), tokens.Sign(":"), valueToken(a))
	}
	row.Put(tokens.Sign(")"))
}
