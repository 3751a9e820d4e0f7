package valid

import (
	"math/rand"
	"testing"

	"halyard/api"
	"halyard/query"
)

// refFields: of a type (that of the query itself is empty) and a name, which type that is of; nothing for numbers and texts.
var refFields = map[string]string{
	"/A": "A", "/B": "B", "A/id": "", "A/n": "", "A/t": "", "A/b": "B", "A/l": "A", "A/m": "B",
	"B/id": "", "B/n": "", "B/a": "A", "B/first": "B",
}

// refLow and refHigh: the numbers that may be asked of those that take an arg.
var (
	refLow  = map[string]int{"/A(id": 1, "/B(id": 1, "A/l(first": 0, "A/m(first": 0, "B/first(first": 0}
	refHigh = map[string]int{"/A(id": 999, "/B(id": 999, "A/l(first": 1 << 40, "A/m(first": 1 << 40, "B/first(first": 1 << 40}
)

// ref: the same another way: what is left to look at lies in a row, each with its type and what it is called above.
func ref(l []api.Select) ([]string, api.Errno) {
	type left struct {
		of, above string
		api.Select
	}
	var row []left
	for _, s := range l {
		row = append(row, left{"", "", s})
	}
	var paths []string
	for len(row) > 0 {
		s := row[0]
		of, there := refFields[s.of+"/"+s.Name]
		if !there {
			return nil, api.ErrNone
		}
		for _, a := range s.Args {
			key := s.of + "/" + s.Name + "(" + a.Name
			low, takes := refLow[key]
			if !takes {
				return nil, api.ErrNone
			}
			if a.IsText {
				return nil, api.ErrKind
			}
			if a.N < low || a.N > refHigh[key] {
				return nil, api.ErrRange
			}
		}
		if (of == "") != (len(s.Kids) == 0) {
			return nil, api.ErrState
		}
		path := s.above + s.Alias
		if s.Alias == "" {
			path += s.Name
		}
		paths = append(paths, path)
		var next []left
		for _, k := range s.Kids {
			next = append(next, left{of, path + "/", k})
		}
		row = append(next, row[1:]...)
	}
	return paths, api.OK
}

func pick(r *rand.Rand, l ...string) string { return l[r.Intn(len(l))] }

func randomArg(r *rand.Rand) api.Arg {
	if r.Intn(12) == 0 {
		return api.Arg{Name: pick(r, "id", "first"), IsText: true, Text: pick(r, "", "1")}
	}
	return api.Arg{Name: pick(r, "id", "id", "first", "first", "x"), N: []int{-1, 0, 1, 5, 999, 1000}[r.Intn(6)]}
}

// randomList of selects that fit a type, but for a few of them.
func randomList(r *rand.Rand, of string, depth int) []api.Select {
	var l []api.Select
	for range 1 + r.Intn(3) {
		s := api.Select{Name: pick(r, "id", "n", "b", "l", "m", "t")}
		switch of {
		case "":
			s.Name = pick(r, "A", "B")
		case "B":
			s.Name = pick(r, "id", "n", "a", "first")
		}
		if r.Intn(30) == 0 {
			s.Name = pick(r, "A", "B", "id", "n", "t", "b", "l", "a", "first", "z")
		}
		if r.Intn(3) == 0 {
			s.Alias = pick(r, "x", "y", "A", "n", "id")
		}
		if r.Intn(6) == 0 {
			s.Args = append(s.Args, randomArg(r))
		}
		if below := refFields[of+"/"+s.Name]; depth < api.MaxDepth && (below != "" || r.Intn(60) == 0) && r.Intn(30) > 0 {
			s.Kids = randomList(r, below, depth+1)
		}
		l = append(l, s)
	}
	return l
}

// TestF1F2F3AgainstAnotherWay: random queries, of which many fit; and no path is there twice.
func TestF1F2F3AgainstAnotherWay(t *testing.T) {
	r := rand.New(rand.NewSource(13))
	right := types(t, kinds)
	met := map[api.Errno]int{}
	for range 40000 {
		l := randomList(r, "", 1)
		paths, want := ref(l)
		if no := query.Check(l); no != api.OK {
			paths, want = nil, no
		}
		check(t, right, l, paths, want)
		if t.Failed() {
			t.FailNow()
		}
		met[want]++
		checkNoneTwice(t, paths, l)
	}
	for _, no := range []api.Errno{api.OK, api.ErrRange, api.ErrState, api.ErrNone, api.ErrTwice, api.ErrKind} {
		if met[no] < 20 {
			t.Errorf("%d queries answered %d", met[no], no)
		}
	}
}

func checkNoneTwice(t *testing.T, paths []string, l []api.Select) {
	t.Helper()
	times := map[string]int{}
	for _, p := range paths {
		times[p]++
		if times[p] > 1 {
			t.Fatalf("Paths(%v): %q is there twice", l, p)
		}
	}
}

// TestF3WhatIsCalledAlikeElsewhere: names alike at other places make no path alike.
func TestF3WhatIsCalledAlikeElsewhere(t *testing.T) {
	l := selects(t, "{a:A{a:l{a:id b:l{a:id}}b:l{a:id b:id}}b:A{a:l{a:id b:id}b:b{a:id}}}")
	paths, no := Paths(types(t, kinds), l)
	if no != api.OK || len(paths) != 14 {
		t.Errorf("%q %d", paths, no)
	}
	checkNoneTwice(t, paths, l)
}

// TestP1WhateverItIsHanded ends, and answers nothing beside an error.
func TestP1WhateverItIsHanded(t *testing.T) {
	r := rand.New(rand.NewSource(14))
	for range 20000 {
		kinds := make([]api.Type, r.Intn(3))
		for i := range kinds {
			kinds[i].Name = pick(r, "A", "B", "id", "Text", "")
			for range r.Intn(3) {
				kinds[i].Fields = append(kinds[i].Fields, api.Field{Name: pick(r, "n", "l", "id", ""), Kind: r.Intn(6), Of: pick(r, "", "A", "B")})
			}
		}
		l := randomList(r, pick(r, "", "A", "B", "z"), 1)
		no := Query(kinds, l)
		if paths, pathsNo := Paths(kinds, l); pathsNo != no || (len(paths) == 0) != (no != api.OK) {
			t.Fatalf("Paths(%v, %v): %q %d, but Query: %d", kinds, l, paths, pathsNo, no)
		}
	}
}
