package query

import (
	"slices"

	"halyard/api"
	"halyard/lex"
	"halyard/parts"
	"halyard/tokens"
)

// fits: whether selects at a depth keep to the limits, of which left more may come. It stops at the first one that does not, so that it ends for a list that holds itself too.
func fits(l []api.Select, depth int, left *int) bool {
	for _, s := range l {
		*left--
		if *left < 0 || depth > api.MaxDepth || !fits(s.Kids, depth+1, left) {
			return false
		}
	}
	return true
}

// wrongList: what is wrong with selects beside one another, each ahead of what is selected of it.
func wrongList(l []api.Select) api.Errno {
	for i, s := range l {
		if no := wrongSelect(s); no != api.OK {
			return no
		}
		same := func(other api.Select) bool { return parts.Called(other) == parts.Called(s) }
		if slices.ContainsFunc(l[:i], same) {
			return api.ErrTwice
		}
		if no := wrongList(s.Kids); no != api.OK {
			return no
		}
	}
	return api.OK
}

// wrongSelect: what is wrong with a select by itself.
func wrongSelect(s api.Select) api.Errno {
	if no := tokens.WrongName(s.Name); no != api.OK {
		return no
	}
	if s.Alias != "" {
		if no := tokens.WrongName(s.Alias); no != api.OK {
			return no
		}
	}
	return wrongArgs(s.Args)
}

func wrongArgs(l []api.Arg) api.Errno {
	if len(l) > api.MaxArgs {
		return api.ErrMany
	}
	for i, a := range l {
		if no := tokens.WrongName(a.Name); no != api.OK {
			return no
		}
		same := func(other api.Arg) bool { return other.Name == a.Name }
		if slices.ContainsFunc(l[:i], same) {
			return api.ErrTwice
		}
		if no := lex.Check([]api.Token{valueToken(a)}); no != api.OK {
			return no
		}
	}
	return api.OK
}
