package exec

import (
	"halyard/api"
	"halyard/parts"
	"halyard/tokens"
)

const maxDepth = 2*api.MaxDepth + 1

// fits: whether an out keeps to the limits of how many there may be, and how deep. It stops at the first one that does not, so that it ends for a list that holds itself too.
func fits(o api.Out) bool {
	left := api.MaxText
	var through func(o api.Out, depth int) bool
	through = func(o api.Out, depth int) bool {
		left--
		if left < 0 || depth > maxDepth {
			return false
		}
		for _, in := range o.List {
			if !through(in, depth+1) {
				return false
			}
		}
		return true
	}
	return through(o, 1)
}

// wrong: what is wrong with an out that fits, ahead of what is in it.
func wrong(o api.Out) api.Errno {
	if no := wrongAlone(o); no != api.OK {
		return no
	}
	for _, in := range o.List {
		if no := wrong(in); no != api.OK {
			return no
		}
	}
	return api.OK
}

// wrongAlone: what is wrong with an out, but not with what is in it.
func wrongAlone(o api.Out) api.Errno {
	switch {
	case o.Kind < api.OutNone || o.Kind > api.OutMap:
		return api.ErrKind
	case !onlyNamed(o):
		return api.ErrForm
	case !parts.IsInt(o.N):
		return api.ErrRange
	case len(o.Text) > api.MaxWords:
		return api.ErrMany
	case len(o.Keys) != len(o.List) && o.Kind == api.OutMap:
		return api.ErrForm
	}
	return wrongKeys(o.Keys)
}

// onlyNamed: whether an out has nothing but what its kind names.
func onlyNamed(o api.Out) bool {
	return (o.N == 0 || o.Kind == api.OutNumber) &&
		(o.Text == "" || o.Kind == api.OutText) &&
		(len(o.Keys) == 0 || o.Kind == api.OutMap) &&
		(len(o.List) == 0 || o.Kind == api.OutList || o.Kind == api.OutMap)
}

func wrongKeys(keys []string) api.Errno {
	met := map[string]int{}
	for i, key := range keys {
		if no := tokens.WrongName(key); no != api.OK {
			return no
		}
		if _, twice := met[key]; twice {
			return api.ErrTwice
		}
		met[key] = i
	}
	return api.OK
}
