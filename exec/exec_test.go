package exec

import (
	"fmt"
	"strconv"
	"strings"
	"testing"

	"halyard/api"
	"halyard/query"
	"halyard/schema"
)

const kinds = "type A{n:Number t:Text b:B l:[A] m:[B]}type B{n:Number a:A first:[B]}"

// types that a text tells.
func types(t *testing.T, text string) []api.Type {
	t.Helper()
	l, no := schema.Read(text)
	if no != api.OK {
		t.Fatalf("%q is no schema: %d", text, no)
	}
	return l
}

// selects that a text tells.
func selects(t *testing.T, text string) []api.Select {
	t.Helper()
	l, no := query.Read(text)
	if no != api.OK {
		t.Fatalf("%q is no query: %d", text, no)
	}
	return l
}

func ids(l ...int) api.Cell { return api.Cell{Ids: l} }

// world: things A 1, 2, 10 and B 3, 4.
func world(t *testing.T) api.State {
	t.Helper()
	return api.State{Types: types(t, kinds), Things: []api.Thing{
		{Type: 0, Id: 1, Cells: []api.Cell{{N: 5}, {Text: "x\"\n"}, ids(), ids(1, 2, 10), ids()}},
		{Type: 0, Id: 2, Cells: []api.Cell{{N: -api.MaxInt}, {}, ids(3), ids(), ids(3, 4)}},
		{Type: 0, Id: 10, Cells: []api.Cell{{}, {Text: "y"}, ids(4), ids(2), ids(4)}},
		{Type: 1, Id: 3, Cells: []api.Cell{{N: 1}, ids(2), ids(3, 4)}},
		{Type: 1, Id: 4, Cells: []api.Cell{{N: api.MaxInt}, ids(), ids()}},
	}}
}

// tell an out, with all that is there: none as ~, a list in square brackets, a map in braces.
func tell(o api.Out) string {
	var l []string
	for i, in := range o.List {
		if o.Kind == api.OutMap && i < len(o.Keys) {
			l = append(l, o.Keys[i]+"="+tell(in))
		} else {
			l = append(l, tell(in))
		}
	}
	parts := strings.Join(l, " ")
	rest := api.Out{Kind: o.Kind}
	text := ""
	switch o.Kind {
	case api.OutNone:
		text = "~" + parts
	case api.OutNumber:
		text, rest.N = strconv.Itoa(o.N)+parts, o.N
	case api.OutText:
		text, rest.Text = strconv.Quote(o.Text)+parts, o.Text
	case api.OutList:
		text = "[" + parts + "]"
	case api.OutMap:
		text, rest.Keys = "{"+parts+"}", o.Keys
	}
	if rest.N != o.N || rest.Text != o.Text || len(rest.Keys) != len(o.Keys) || text == "" || o.Kind == api.OutMap && len(o.Keys) != len(o.List) {
		return fmt.Sprintf("wrong%v", o)
	}
	return text
}

func nothing(o api.Out) bool {
	return o.Kind == 0 && o.N == 0 && o.Text == "" && len(o.Keys)+len(o.List) == 0
}

// count the outs of an out, itself too.
func count(o api.Out) int {
	n := 1
	for _, in := range o.List {
		n += count(in)
	}
	return n
}

func checkAnswer(t *testing.T, s api.State, l []api.Select, want string) {
	t.Helper()
	o, no := Query(s, l)
	if no != api.OK || tell(o) != want {
		t.Errorf("Query(%v): %s %d, not %s", l, tell(o), no, want)
	}
	if no := Check(o); no != api.OK {
		t.Errorf("Query(%v): %s, of which Check says %d", l, tell(o), no)
	}
}

func checkNo(t *testing.T, s api.State, l []api.Select, want api.Errno) {
	t.Helper()
	if o, no := Query(s, l); no != want || !nothing(o) {
		t.Errorf("Query(%v, %v): %v %d, not %d", s, l, o, no, want)
	}
}

func TestG1Answers(t *testing.T) {
	for _, c := range []struct{ text, want string }{
		// All things of a type, or one.
		{"{A{id}}", "{A=[{id=1} {id=2} {id=10}]}"},
		{"{B{id}}", "{B=[{id=3} {id=4}]}"},
		{"{A(id:10){id}}", "{A={id=10}}"},
		{"{A(id:1){id}}", "{A={id=1}}"},
		{"{A(id:3){id}}", "{A=~}"},
		{"{B(id:1){id}}", "{B=~}"},
		{"{B(id:3){id}}", "{B={id=3}}"},
		{"{A(id:999){id n t b{id}l{id}}}", "{A=~}"},
		// Numbers and texts, in the order of the selects.
		{"{A(id:1){id n t}}", `{A={id=1 n=5 t="x\"\n"}}`},
		{"{A(id:1){t n id}}", `{A={t="x\"\n" n=5 id=1}}`},
		{"{A{n t}}", `{A=[{n=5 t="x\"\n"} {n=-999999999 t=""} {n=0 t="y"}]}`},
		{"{B{n}}", "{B=[{n=1} {n=999999999}]}"},
		// What a FieldOne has, or none.
		{"{A(id:2){b{id}}}", "{A={b={id=3}}}"},
		{"{A{b{n}}}", "{A=[{b=~} {b={n=1}} {b={n=999999999}}]}"},
		{"{B{a{id b{a{n}}}}}", "{B=[{a={id=2 b={a={n=-999999999}}}} {a=~}]}"},
		// What a FieldMany has.
		{"{A{l{id}}}", "{A=[{l=[{id=1} {id=2} {id=10}]} {l=[]} {l=[{id=2}]}]}"},
		{"{A(id:2){m{id}}}", "{A={m=[{id=3} {id=4}]}}"},
		{"{A(id:1){m{id}}}", "{A={m=[]}}"},
		{"{B(id:3){first{n a{id}}}}", "{B={first=[{n=1 a={id=2}} {n=999999999 a=~}]}}"},
		{"{A(id:1){l{l{id}b{id}}}}", "{A={l=[{l=[{id=1} {id=2} {id=10}] b=~} {l=[] b={id=3}} {l=[{id=2}] b={id=4}}]}}"},
		{"{A(id:10){l{l{id}}m{first{id}}}}", "{A={l=[{l=[]}] m=[{first=[]}]}}"},
		// At most so many of it.
		{"{A(id:1){l(first:0){id}}}", "{A={l=[]}}"},
		{"{A(id:1){l(first:1){id}}}", "{A={l=[{id=1}]}}"},
		{"{A(id:1){l(first:2){id}}}", "{A={l=[{id=1} {id=2}]}}"},
		{"{A(id:1){l(first:3){id}}}", "{A={l=[{id=1} {id=2} {id=10}]}}"},
		{"{A(id:1){l(first:4){id}}}", "{A={l=[{id=1} {id=2} {id=10}]}}"},
		{"{A(id:1){l(first:999999999){id}}}", "{A={l=[{id=1} {id=2} {id=10}]}}"},
		{"{A{m(first:1){id}}}", "{A=[{m=[]} {m=[{id=3}]} {m=[{id=4}]}]}"},
		{"{A(id:1){l(first:2){l(first:1){id}}}}", "{A={l=[{l=[{id=1}]} {l=[]}]}}"},
		// What they are called.
		{"{x:A(id:1){y:n z:n n}}", "{x={y=5 z=5 n=5}}"},
		{"{B:A(id:1){n:id id:n}A:B(id:3){a:n n:a{id}}}", "{B={n=1 id=5} A={a=1 n={id=2}}}"},
		{"{x:A(id:2){l:b{id}b:l{id}}}", "{x={l={id=3} b=[]}}"},
		{"{one:A(id:1){id}two:A(id:2){id}none:A(id:9){id}A{id}}", "{one={id=1} two={id=2} none=~ A=[{id=1} {id=2} {id=10}]}"},
		{"{B{id}A{id}}", "{B=[{id=3} {id=4}] A=[{id=1} {id=2} {id=10}]}"},
		{"{A(id:1){a:l(first:1){id}b:l(first:2){n}c:l(first:0){id}}}", "{A={a=[{id=1}] b=[{n=5} {n=-999999999}] c=[]}}"},
	} {
		checkAnswer(t, world(t), selects(t, c.text), c.want)
	}
}

// TestG1OfNoThings: an empty list, or none.
func TestG1OfNoThings(t *testing.T) {
	s := api.State{Types: types(t, kinds)}
	checkAnswer(t, s, selects(t, "{A{id}B{n}x:A(id:1){l{id}}}"), "{A=[] B=[] x=~}")
	s.Things = world(t).Things[4:]
	checkAnswer(t, s, selects(t, "{A{id}B{n}x:A(id:4){l{id}}}"), "{A=[] B=[{n=999999999}] x=~}")
}

// TestG1NamesThatMeanSomethingElseElsewhere: a field may be called as a type is, and as args are.
func TestG1NamesThatMeanSomethingElseElsewhere(t *testing.T) {
	s := api.State{
		Types: types(t, "type id{first:Number A:A}type A{A:[A]id2:id}type first{first:[first]}"),
		Things: []api.Thing{
			{Type: 0, Id: 7, Cells: []api.Cell{{N: 9}, ids(7)}},
			{Type: 1, Id: 7, Cells: []api.Cell{ids(7, 8), ids(7)}},
			{Type: 1, Id: 8, Cells: []api.Cell{ids(), ids()}},
			{Type: 2, Id: 7, Cells: []api.Cell{ids(7)}},
		},
	}
	for _, c := range []struct{ text, want string }{
		{"{id{id first A{id}}}", "{id=[{id=7 first=9 A={id=7}}]}"},
		{"{id(id:7){first}A(id:7){A(first:1){id2{first}}}}", "{id={first=9} A={A=[{id2={first=9}}]}}"},
		{"{A{A{A{id}id2{id}}}}", "{A=[{A=[{A=[{id=7} {id=8}] id2={id=7}} {A=[] id2=~}]} {A=[]}]}"},
		{"{first{first(first:1){first{id}}}}", "{first=[{first=[{first=[{id=7}]}]}]}"},
	} {
		checkAnswer(t, s, selects(t, c.text), c.want)
	}
}

// TestG1Errors: the state's first, then the query's.
func TestG1Errors(t *testing.T) {
	fits, misfit := selects(t, "{A{id}}"), selects(t, "{C}")
	bad := func(change func(s *api.State)) api.State {
		s := world(t)
		change(&s)
		return s
	}
	for _, c := range []struct {
		s    api.State
		l    []api.Select
		want api.Errno
	}{
		{api.State{}, fits, api.ErrNone}, {api.State{Types: make([]api.Type, api.MaxTypes+1)}, nil, api.ErrMany},
		{bad(func(s *api.State) { s.Types = append(s.Types, s.Types[0]) }), misfit, api.ErrTwice},
		{bad(func(s *api.State) { s.Types[1].Fields[0].Kind = 9 }), misfit, api.ErrKind},
		{bad(func(s *api.State) { s.Things = make([]api.Thing, api.MaxThings+1) }), misfit, api.ErrMany},
		{bad(func(s *api.State) { s.Things[1].Id = 0 }), misfit, api.ErrRange},
		{bad(func(s *api.State) { s.Things[1].Cells = nil }), misfit, api.ErrForm},
		{bad(func(s *api.State) { s.Things[1].Id = 11 }), fits, api.ErrState},
		{bad(func(s *api.State) { s.Things = s.Things[:4] }), selects(t, "{A{l}}"), api.ErrNone},
		{bad(func(s *api.State) { s.Things[0].Cells[3].Ids[0] = 9 }), selects(t, "{A{l}}"), api.ErrState},
		{world(t), nil, api.ErrNone}, {world(t), misfit, api.ErrNone}, {world(t), make([]api.Select, api.MaxSelects+1), api.ErrMany},
		{world(t), []api.Select{{Name: "9"}}, api.ErrForm}, {world(t), append(fits[:1:1], fits[0]), api.ErrTwice},
		{world(t), selects(t, "{A}"), api.ErrState}, {world(t), selects(t, "{A{z}}"), api.ErrNone}, {world(t), selects(t, "{A{n{id}}}"), api.ErrState},
		{world(t), selects(t, "{A(id:0){id}}"), api.ErrRange}, {world(t), selects(t, `{A(id:"1"){id}}`), api.ErrKind},
		{world(t), selects(t, "{A{l(first:-1){id}}}"), api.ErrRange}, {world(t), selects(t, "{A(first:1){id}}"), api.ErrNone},
		{api.State{Types: types(t, kinds)}, selects(t, "{A{b(first:1){id}}}"), api.ErrNone},
	} {
		checkNo(t, c.s, c.l, c.want)
	}
}

// crowd: as many things as there may be, each having as many as it may.
func crowd(t *testing.T) api.State {
	s := api.State{Types: types(t, "type A{l:[A]}")}
	for i := range api.MaxThings {
		s.Things = append(s.Things, api.Thing{Id: i + 1, Cells: []api.Cell{ids(1, 2, 3, 4, 5, 6)}})
	}
	return s
}

// called: selects of id, each called otherwise.
func called(n int) []api.Select {
	var l []api.Select
	for i := range n {
		l = append(l, api.Select{Alias: "x" + strconv.Itoa(i), Name: "id"})
	}
	return l
}

func TestG1AsManyAsThereMayBe(t *testing.T) {
	one := []api.Arg{{Name: "id", N: 1}}
	// The map and the list of all; of each thing a map, a list, and six maps of 26; then 25, and 1 and what is called.
	sized := func(n int) []api.Select {
		return []api.Select{
			{Name: "A", Kids: []api.Select{{Name: "l", Kids: called(26)}}},
			{Alias: "y", Name: "A", Kids: called(1)},
			{Alias: "z", Name: "A", Args: one, Kids: called(n)},
		}
	}
	o, no := Query(crowd(t), sized(4))
	if no != api.OK || count(o) != api.MaxText || Check(o) != api.OK {
		t.Errorf("%d outs: %d", count(o), no)
	}
	checkNo(t, crowd(t), sized(5), api.ErrMany)
	l := called(api.MaxSelects - 4)
	for range 3 {
		l = []api.Select{{Name: "l", Kids: l}}
	}
	checkNo(t, crowd(t), []api.Select{{Name: "A", Kids: l}}, api.ErrMany)
	// What is wrong with the query goes ahead of how much it would answer.
	checkNo(t, crowd(t), append(sized(5), api.Select{Name: "z"}), api.ErrTwice)
	checkNo(t, crowd(t), append(sized(5), api.Select{Name: "C"}), api.ErrNone)
}

// TestG1AsDeepAsThereMayBe: Check takes it.
func TestG1AsDeepAsThereMayBe(t *testing.T) {
	checkAnswer(t, world(t), selects(t, "{A{l(first:1){l(first:1){l(first:1){id}}}}}"),
		"{A=[{l=[{l=[{l=[{id=1}]}]}]} {l=[]} {l=[{l=[]}]}]}")
}
