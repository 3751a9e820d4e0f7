package change

import (
	"fmt"
	"reflect"
	"slices"
	"strings"
	"testing"

	"halyard/api"
	"halyard/query"
)

// kinds: type A (0) has n, t, b, l (0 to 3), type B (1) has m (0).
func kinds() []api.Type {
	return []api.Type{
		{Name: "A", Fields: []api.Field{
			{Name: "n", Kind: api.FieldNumber}, {Name: "t", Kind: api.FieldText},
			{Name: "b", Kind: api.FieldOne, Of: "B"}, {Name: "l", Kind: api.FieldMany, Of: "A"},
		}},
		{Name: "B", Fields: []api.Field{{Name: "m", Kind: api.FieldNumber}}},
	}
}

func thingA(id int, cells ...api.Cell) api.Thing {
	return api.Thing{Type: 0, Id: id, Cells: append(cells, make([]api.Cell, 4-len(cells))...)}
}

func thingB(id int, n int) api.Thing { return api.Thing{Type: 1, Id: id, Cells: []api.Cell{{N: n}}} }

func ids(l ...int) api.Cell { return api.Cell{Ids: l} }

func with(things ...api.Thing) api.State { return api.State{Types: kinds(), Things: things} }

// world: A 1 (n 5, t x, b 3, l 2), A 2, B 3, B 4.
func world() api.State {
	return with(thingA(1, api.Cell{N: 5}, api.Cell{Text: "x"}, ids(3), ids(2)), thingA(2), thingB(3, 0), thingB(4, 0))
}

// selects that a text tells.
func selects(t *testing.T, text string) []api.Select {
	t.Helper()
	l, no := query.Read(text)
	if no != api.OK {
		t.Fatalf("%q is no query: %d", text, no)
	}
	return l
}

// plain: empty lists are as good as none.
func plain(s api.State) api.State {
	out := api.State{Types: append([]api.Type(nil), s.Types...)}
	for i := range out.Types {
		out.Types[i].Fields = append([]api.Field(nil), s.Types[i].Fields...)
	}
	for _, t := range s.Things {
		t.Cells = append([]api.Cell(nil), t.Cells...)
		for i := range t.Cells {
			t.Cells[i].Ids = append([]int(nil), t.Cells[i].Ids...)
		}
		out.Things = append(out.Things, t)
	}
	return out
}

func same(a, b api.State) bool { return reflect.DeepEqual(plain(a), plain(b)) }

func nothing(s api.State) bool { return len(s.Types)+len(s.Things) == 0 }

func checkEvents(t *testing.T, s api.State, l []api.Select, want []api.Event, wantNo api.Errno) {
	t.Helper()
	if got, no := Events(s, l); no != wantNo || !slices.Equal(got, want) {
		t.Errorf("Events(%v): %v %d, not %v %d", shown(l), got, no, want, wantNo)
	}
}

func checkDo(t *testing.T, s api.State, l []api.Select, want api.State, events []api.Event, wantNo api.Errno) {
	t.Helper()
	if got, done, no := Do(s, l); no != wantNo || !same(got, want) || !slices.Equal(done, events) {
		t.Errorf("Do(%v): %v %v %d, not %v %v %d", shown(l), got, done, no, want, events, wantNo)
	}
}

// checkNo: both answer an error, and nothing else.
func checkNo(t *testing.T, s api.State, l []api.Select, want api.Errno) {
	t.Helper()
	checkEvents(t, s, l, nil, want)
	checkDo(t, s, l, api.State{}, nil, want)
}

// shown: selects, but not what is selected of them, as that may hold itself.
func shown(l []api.Select) string {
	var b strings.Builder
	for _, s := range l {
		fmt.Fprintf(&b, "%s:%s%v{%d} ", s.Alias, s.Name, s.Args, len(s.Kids))
	}
	return b.String()
}

func TestI1Events(t *testing.T) {
	for _, c := range []struct {
		text string
		want []api.Event
	}{
		{`{make(type:"A",id:7)}`, []api.Event{{Kind: api.EventMake, Type: 0, Id: 7}}},
		{`{make(type:"B",id:999)}`, []api.Event{{Kind: api.EventMake, Type: 1, Id: 999}}},
		{`{drop(type:"B",id:4)}`, []api.Event{{Kind: api.EventDrop, Type: 1, Id: 4}}},
		{`{set(type:"A",id:1,field:"n",number:7)}`, []api.Event{{Kind: api.EventNumber, Id: 1, Field: 0, N: 7}}},
		{`{set(type:"A",id:1,field:"n",number:-999999999)}`, []api.Event{{Kind: api.EventNumber, Id: 1, Field: 0, N: -999999999}}},
		{`{set(type:"A",id:1,field:"n",number:0)}`, []api.Event{{Kind: api.EventNumber, Id: 1, Field: 0}}},
		{`{set(type:"B",id:3,field:"m",number:1)}`, []api.Event{{Kind: api.EventNumber, Type: 1, Id: 3, Field: 0, N: 1}}},
		{`{set(type:"A",id:1,field:"t",text:"new")}`, []api.Event{{Kind: api.EventText, Id: 1, Field: 1, Text: "new"}}},
		{`{set(type:"A",id:1,field:"t",text:"")}`, []api.Event{{Kind: api.EventText, Id: 1, Field: 1}}},
		{`{link(type:"A",id:1,field:"b",to:4)}`, []api.Event{{Kind: api.EventLink, Id: 1, Field: 2, N: 4}}},
		{`{link(type:"A",id:1,field:"l",to:1)}`, []api.Event{{Kind: api.EventLink, Id: 1, Field: 3, N: 1}}},
		{`{cut(type:"A",id:1,field:"l",to:2)}`, []api.Event{{Kind: api.EventCut, Id: 1, Field: 3, N: 2}}},
		// Several, in order; an alias does not matter, be it the name of another one.
		{`{set:drop(type:"B",id:4) x:make(type:"A",id:8) make(type:"B",id:9) drop:cut(type:"A",id:1,field:"b",to:3)}`, []api.Event{
			{Kind: api.EventDrop, Type: 1, Id: 4}, {Kind: api.EventMake, Id: 8}, {Kind: api.EventMake, Type: 1, Id: 9}, {Kind: api.EventCut, Id: 1, Field: 2, N: 3},
		}},
		{`{z:make(type:"A",id:8) a:make(type:"A",id:7)}`, []api.Event{{Kind: api.EventMake, Id: 8}, {Kind: api.EventMake, Id: 7}}},
		// Whether an event can be done is not looked at.
		{`{make(type:"A",id:1)}`, []api.Event{{Kind: api.EventMake, Id: 1}}},
		{`{make(type:"A",id:0)}`, []api.Event{{Kind: api.EventMake}}},
		{`{drop(type:"A",id:-5)}`, []api.Event{{Kind: api.EventDrop, Id: -5}}},
		{`{drop(type:"A",id:1000)}`, []api.Event{{Kind: api.EventDrop, Id: 1000}}},
		{`{set(type:"A",id:9,field:"l",number:7)}`, []api.Event{{Kind: api.EventNumber, Id: 9, Field: 3, N: 7}}},
		{`{set(type:"A",id:1,field:"n",text:"7")}`, []api.Event{{Kind: api.EventText, Id: 1, Field: 0, Text: "7"}}},
		{`{link(type:"A",id:1,field:"n",to:-1)}`, []api.Event{{Kind: api.EventLink, Id: 1, Field: 0, N: -1}}},
		{`{cut(type:"B",id:1,field:"m",to:0)}`, []api.Event{{Kind: api.EventCut, Type: 1, Id: 1, Field: 0}}},
	} {
		checkEvents(t, world(), selects(t, c.text), c.want, api.OK)
	}
}

// orders of args: all of them.
func orders(l []api.Arg) [][]api.Arg {
	if len(l) == 0 {
		return [][]api.Arg{nil}
	}
	var all [][]api.Arg
	for i, first := range l {
		for _, rest := range orders(slices.Concat(l[:i], l[i+1:])) {
			all = append(all, append([]api.Arg{first}, rest...))
		}
	}
	return all
}

func TestI1ArgsInAnyOrder(t *testing.T) {
	for _, c := range []struct {
		text string
		want api.Event
	}{
		{`{make(type:"B",id:7)}`, api.Event{Kind: api.EventMake, Type: 1, Id: 7}},
		{`{drop(type:"B",id:7)}`, api.Event{Kind: api.EventDrop, Type: 1, Id: 7}},
		{`{set(type:"A",id:2,field:"l",number:7)}`, api.Event{Kind: api.EventNumber, Id: 2, Field: 3, N: 7}},
		{`{set(type:"A",id:2,field:"t",text:"A")}`, api.Event{Kind: api.EventText, Id: 2, Field: 1, Text: "A"}},
		{`{link(type:"A",id:2,field:"b",to:4)}`, api.Event{Kind: api.EventLink, Id: 2, Field: 2, N: 4}},
		{`{cut(type:"A",id:2,field:"b",to:4)}`, api.Event{Kind: api.EventCut, Id: 2, Field: 2, N: 4}},
	} {
		l := selects(t, c.text)
		for _, args := range orders(l[0].Args) {
			checkEvents(t, world(), []api.Select{{Alias: "x", Name: l[0].Name, Args: args}}, []api.Event{c.want}, api.OK)
		}
	}
}

// TestI1Errors of a select, the one that is named first.
func TestI1Errors(t *testing.T) {
	for _, c := range []struct {
		text string
		want api.Errno
	}{
		// Something selected of it, ahead of its name and its args.
		{`{make(type:"A",id:7){id}}`, api.ErrState}, {`{make{id}}`, api.ErrState}, {`{what{id}}`, api.ErrState}, {`{A(id:1){n}}`, api.ErrState},
		{`{make(type:1){make(type:"A",id:7)}}`, api.ErrState},
		// Its name, ahead of its args; not its alias.
		{`{what(type:"A",id:7)}`, api.ErrNone}, {`{what}`, api.ErrNone}, {`{Make(type:"A",id:7)}`, api.ErrNone}, {`{makes(type:"A",id:7)}`, api.ErrNone},
		{`{make:what(type:"A",id:7)}`, api.ErrNone}, {`{type}`, api.ErrNone}, {`{number}`, api.ErrNone},
		// Its args, by name, ahead of what they are.
		{`{make}`, api.ErrForm}, {`{drop}`, api.ErrForm}, {`{set}`, api.ErrForm}, {`{link}`, api.ErrForm}, {`{cut}`, api.ErrForm},
		{`{make(type:"A")}`, api.ErrForm}, {`{make(id:7)}`, api.ErrForm}, {`{make(type:1)}`, api.ErrForm}, {`{make(type:"A",ids:7)}`, api.ErrForm},
		{`{make(Type:"A",id:7)}`, api.ErrForm}, {`{make(type:"A",id:7,x:1)}`, api.ErrForm}, {`{make(type:"A",id:7,field:"n")}`, api.ErrForm},
		{`{make(type:1,id:"7",x:1)}`, api.ErrForm}, {`{make(type:"Z",id:7,x:1)}`, api.ErrForm},
		{`{drop(type:"A")}`, api.ErrForm}, {`{drop(type:"A",id:1,field:"n",number:1)}`, api.ErrForm}, {`{drop(type:"A",id:1,to:1)}`, api.ErrForm},
		{`{set(type:"A",id:1,field:"n")}`, api.ErrForm}, {`{set(type:"A",id:1,number:7)}`, api.ErrForm}, {`{set(id:1,field:"n",number:7)}`, api.ErrForm},
		{`{set(type:"A",field:"t",text:"x")}`, api.ErrForm}, {`{set(type:"A",id:1,number:7,text:"x")}`, api.ErrForm},
		{`{set(type:"A",id:1,field:"n",number:7,text:"x")}`, api.ErrForm}, {`{set(type:"A",id:1,field:"n",to:7)}`, api.ErrForm},
		{`{set(type:"A",id:1,field:"n",number:7,x:1)}`, api.ErrForm}, {`{set(type:"A",id:1)}`, api.ErrForm}, {`{set(type:"Z",id:1,field:1)}`, api.ErrForm},
		{`{link(type:"A",id:1,field:"l",number:1)}`, api.ErrForm}, {`{link(type:"A",id:1,field:"l")}`, api.ErrForm}, {`{link(type:"A",id:1,field:"l",to:1,x:1)}`, api.ErrForm},
		{`{cut(type:"A",id:1,field:"l",text:"x")}`, api.ErrForm}, {`{cut(type:"A",id:1,to:1)}`, api.ErrForm},
		// Texts and numbers, ahead of which type and field.
		{`{make(type:1,id:7)}`, api.ErrKind}, {`{make(type:"A",id:"7")}`, api.ErrKind}, {`{make(type:1,id:"7")}`, api.ErrKind}, {`{make(type:"Z",id:"7")}`, api.ErrKind},
		{`{drop(type:0,id:1)}`, api.ErrKind}, {`{drop(type:"A",id:"")}`, api.ErrKind},
		{`{set(type:"A",id:1,field:"n",number:"7")}`, api.ErrKind}, {`{set(type:"A",id:1,field:"t",text:7)}`, api.ErrKind}, {`{set(type:"A",id:1,field:"t",text:0)}`, api.ErrKind},
		{`{set(type:"A",id:1,field:1,number:7)}`, api.ErrKind}, {`{set(type:"A",id:"1",field:"n",number:7)}`, api.ErrKind}, {`{set(type:0,id:1,field:"n",number:7)}`, api.ErrKind},
		{`{set(type:"A",id:1,field:"z",text:7)}`, api.ErrKind}, {`{set(type:"Z",id:1,field:"z",number:"")}`, api.ErrKind},
		{`{link(type:"A",id:1,field:"l",to:"2")}`, api.ErrKind}, {`{link(type:"A",id:1,field:3,to:2)}`, api.ErrKind}, {`{cut(type:"A",id:1,field:"l",to:"2")}`, api.ErrKind},
		// Which type, which field.
		{`{make(type:"Z",id:7)}`, api.ErrNone}, {`{make(type:"",id:7)}`, api.ErrNone}, {`{make(type:"a",id:7)}`, api.ErrNone}, {`{make(type:"A ",id:7)}`, api.ErrNone},
		{`{drop(type:"Number",id:7)}`, api.ErrNone}, {`{set(type:"Z",id:1,field:"n",number:7)}`, api.ErrNone},
		{`{set(type:"A",id:1,field:"z",number:7)}`, api.ErrNone}, {`{set(type:"A",id:1,field:"id",number:7)}`, api.ErrNone}, {`{set(type:"A",id:1,field:"",text:"")}`, api.ErrNone},
		{`{set(type:"B",id:3,field:"n",number:7)}`, api.ErrNone}, {`{set(type:"A",id:1,field:"m",number:7)}`, api.ErrNone},
		{`{link(type:"A",id:1,field:"B",to:1)}`, api.ErrNone}, {`{cut(type:"B",id:3,field:"l",to:1)}`, api.ErrNone}, {`{link(type:"Z",id:1,field:"l",to:1)}`, api.ErrNone},
		// The first select of which something is wrong tells.
		{`{make(type:"A",id:7) drop(type:"A")}`, api.ErrForm}, {`{drop(type:"A") make(type:1,id:7)}`, api.ErrForm}, {`{make(type:1,id:7) drop(type:"A")}`, api.ErrKind},
		{`{make(type:"Z",id:7) drop{id}}`, api.ErrNone}, {`{drop{id} make(type:"Z",id:7)}`, api.ErrState}, {`{make(type:"A",id:1) what}`, api.ErrNone},
	} {
		checkNo(t, world(), selects(t, c.text), c.want)
	}
}

// makes: n selects that make things, from id 11 on.
func makes(n int) []api.Select {
	var l []api.Select
	for i := range n {
		l = append(l, api.Select{Alias: fmt.Sprint("m", i), Name: "make", Args: []api.Arg{{Name: "id", N: 11 + i}, {Name: "type", IsText: true, Text: "A"}}})
	}
	return l
}

// TestI1TooMany events go behind what is wrong with any select.
func TestI1TooMany(t *testing.T) {
	var most []api.Event
	for i := range api.MaxEvents {
		most = append(most, api.Event{Kind: api.EventMake, Id: 11 + i})
	}
	checkEvents(t, world(), makes(api.MaxEvents), most, api.OK)
	checkNo(t, world(), makes(api.MaxEvents+1), api.ErrMany)
	checkNo(t, world(), makes(api.MaxSelects), api.ErrMany)
	for _, c := range []struct {
		last api.Select
		want api.Errno
	}{
		{api.Select{Name: "what"}, api.ErrNone}, {api.Select{Name: "make"}, api.ErrForm}, {api.Select{Name: "make", Kids: []api.Select{{Name: "id"}}}, api.ErrState},
		{api.Select{Name: "drop", Args: []api.Arg{{Name: "id"}, {Name: "type"}}}, api.ErrKind},
	} {
		checkNo(t, world(), append(makes(api.MaxEvents), c.last), c.want)
		checkNo(t, world(), append(makes(api.MaxSelects-2), c.last), c.want)
	}
}

// TestI1ErrorsOfChecks: of the state, then of the query, ahead of all others.
func TestI1ErrorsOfChecks(t *testing.T) {
	wrong := world()
	wrong.Things[3].Id = 0
	arg := func(name, text string, n int) []api.Select {
		return []api.Select{{Name: "make", Args: []api.Arg{{Name: name, N: n, Text: text}}}}
	}
	for _, c := range []struct {
		s    api.State
		l    []api.Select
		want api.Errno
	}{
		{api.State{}, nil, api.ErrNone}, {api.State{}, makes(9), api.ErrNone},
		{wrong, nil, api.ErrRange}, {wrong, makes(1), api.ErrRange}, {wrong, makes(9), api.ErrRange}, {wrong, []api.Select{{}}, api.ErrRange},
		{with(thingA(1), thingA(1)), makes(1), api.ErrState}, {with(thingA(1, api.Cell{}, api.Cell{}, ids(1))), makes(1), api.ErrNone},
		{with(thingA(1, api.Cell{Text: "x"})), []api.Select{{Name: "what"}}, api.ErrForm},
		{world(), nil, api.ErrNone}, {world(), []api.Select{}, api.ErrNone}, {world(), makes(api.MaxSelects + 1), api.ErrMany},
		{world(), []api.Select{{}}, api.ErrForm}, {world(), []api.Select{{Name: "what", Alias: "1"}}, api.ErrForm}, {world(), []api.Select{{Name: "aboutthirteen"}}, api.ErrMany},
		{world(), []api.Select{{Name: "make"}, {Name: "make"}}, api.ErrTwice},
		{world(), append(makes(1), makes(1)...), api.ErrTwice},
		{world(), []api.Select{{Name: "what"}, {Name: "make", Args: []api.Arg{{Name: "id"}, {Name: "id"}}}}, api.ErrTwice},
		{world(), []api.Select{{Name: "what", Args: make([]api.Arg, api.MaxArgs+1)}}, api.ErrMany},
		{world(), arg("id", "x", 1), api.ErrForm}, {world(), arg("id", "", api.MaxInt+1), api.ErrRange}, {world(), arg("", "", 1), api.ErrForm},
		{world(), []api.Select{{Name: "make", Args: []api.Arg{{Name: "type", IsText: true, Text: strings.Repeat("w", api.MaxWords+1)}}}}, api.ErrMany},
		{world(), []api.Select{{Name: "make", Kids: []api.Select{{Name: "1"}}}}, api.ErrForm},
	} {
		checkNo(t, c.s, c.l, c.want)
	}
}

func TestI1Do(t *testing.T) {
	for _, c := range []struct {
		text   string
		want   api.State
		events []api.Event
	}{
		{`{make(type:"B",id:5)}`, with(world().Things[0], thingA(2), thingB(3, 0), thingB(4, 0), thingB(5, 0)), []api.Event{{Kind: api.EventMake, Type: 1, Id: 5}}},
		{`{drop(type:"B",id:4)}`, with(world().Things[0], thingA(2), thingB(3, 0)), []api.Event{{Kind: api.EventDrop, Type: 1, Id: 4}}},
		{`{set(number:-1,field:"m",id:3,type:"B")}`, with(world().Things[0], thingA(2), thingB(3, -1), thingB(4, 0)), []api.Event{{Kind: api.EventNumber, Type: 1, Id: 3, N: -1}}},
		// What one does, the next one finds.
		{`{cut(type:"A",id:1,field:"l",to:2) drop(type:"A",id:2) make(type:"A",id:7) set(type:"A",id:7,field:"t",text:"y") link(type:"A",id:7,field:"l",to:1) to:link(type:"A",id:1,field:"b",to:4)}`,
			with(thingA(1, api.Cell{N: 5}, api.Cell{Text: "x"}, ids(4)), thingA(7, api.Cell{}, api.Cell{Text: "y"}, api.Cell{}, ids(1)), thingB(3, 0), thingB(4, 0)),
			[]api.Event{
				{Kind: api.EventCut, Id: 1, Field: 3, N: 2}, {Kind: api.EventDrop, Id: 2}, {Kind: api.EventMake, Id: 7},
				{Kind: api.EventText, Id: 7, Field: 1, Text: "y"}, {Kind: api.EventLink, Id: 7, Field: 3, N: 1}, {Kind: api.EventLink, Id: 1, Field: 2, N: 4},
			}},
	} {
		checkDo(t, world(), selects(t, c.text), c.want, c.events, api.OK)
	}
}

// TestI2NotAtAll: where one event can't be done, none is, and none is told.
func TestI2NotAtAll(t *testing.T) {
	s := world()
	for _, c := range []struct {
		text string
		want api.Errno
	}{
		{`{make(type:"A",id:1)}`, api.ErrTwice}, {`{make(type:"A",id:0)}`, api.ErrRange}, {`{drop(type:"A",id:1000)}`, api.ErrRange},
		{`{drop(type:"A",id:2)}`, api.ErrState}, {`{drop(type:"A",id:3)}`, api.ErrNone},
		{`{set(type:"A",id:1,field:"t",number:1)}`, api.ErrKind}, {`{set(type:"A",id:1,field:"n",text:"x")}`, api.ErrKind}, {`{set(type:"A",id:9,field:"n",number:1)}`, api.ErrNone},
		{`{link(type:"A",id:1,field:"l",to:2)}`, api.ErrTwice}, {`{link(type:"A",id:1,field:"b",to:1)}`, api.ErrNone}, {`{link(type:"A",id:1,field:"n",to:1)}`, api.ErrKind},
		{`{cut(type:"A",id:1,field:"l",to:1)}`, api.ErrNone},
		{`{set(type:"A",id:1,field:"n",number:9) make(type:"A",id:7) drop(type:"B",id:4) x:make(type:"A",id:7)}`, api.ErrTwice},
		{`{x:make(type:"A",id:7) y:make(type:"A",id:1) z:make(type:"A",id:0)}`, api.ErrTwice},
		{`{x:make(type:"A",id:0) y:make(type:"A",id:1)}`, api.ErrRange},
		{`{drop(type:"A",id:1) set(type:"A",id:1,field:"n",number:1)}`, api.ErrNone},
	} {
		l := selects(t, c.text)
		if events, no := Events(s, l); no != api.OK || len(events) != len(l) {
			t.Errorf("Events(%s): %v %d", c.text, events, no)
		}
		checkDo(t, s, l, api.State{}, nil, c.want)
		if !same(s, world()) {
			t.Fatalf("behind %s the state is %v", c.text, s)
		}
	}
	// Room for three is left of twelve.
	full := with()
	for id := 1; id <= api.MaxThings-3; id++ {
		full.Things = append(full.Things, thingA(id))
	}
	checkDo(t, full, makes(4), api.State{}, nil, api.ErrMany)
	if got, events, no := Do(full, makes(3)); no != api.OK || len(got.Things) != api.MaxThings || len(events) != 3 {
		t.Errorf("Do: %v %v %d", got, events, no)
	}
}
