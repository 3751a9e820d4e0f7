// Package query: queries: see doc/02-query.md.
package query

import (
	"halyard/api"
	"halyard/lex"
	"halyard/parse"
	"halyard/tokens"
)

// Read a query.
func Read(s string) ([]api.Select, api.Errno) {
	read, no := lex.Read(s)
	if no != api.OK {
		return nil, no
	}
	var l []api.Select
	if no := parse.Caught(func() { l = whole(parse.NewLine(read)) }); no != api.OK {
		return nil, no
	}
	if no := Check(l); no != api.OK {
		return nil, no
	}
	return l, api.OK
}

// Check a query.
func Check(l []api.Select) api.Errno {
	if len(l) == 0 {
		return api.ErrNone
	}
	left := api.MaxSelects
	if !fits(l, 1, &left) {
		return api.ErrMany
	}
	return wrongList(l)
}

// Print a query.
func Print(l []api.Select) (string, api.Errno) {
	if no := Check(l); no != api.OK {
		return "", no
	}
	var row tokens.Row
	putList(&row, l)
	return row.Text()
}
