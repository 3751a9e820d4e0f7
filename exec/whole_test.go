package exec

import (
	"math/rand"
	"reflect"
	"slices"
	"strconv"
	"strings"
	"testing"

	"halyard/api"
	"halyard/state"
	"halyard/valid"
)

func pick(r *rand.Rand, l ...string) string { return l[r.Intn(len(l))] }

// some of the numbers, rising: the most of so many draws.
func some(r *rand.Rand, from []int, most, draws int) []int {
	n := 0
	for range draws {
		n = max(n, r.Intn(min(len(from), most)+1))
	}
	var l []int
	for _, i := range r.Perm(len(from))[:n] {
		l = append(l, from[i])
	}
	slices.Sort(l)
	return l
}

// randomState of the schema kinds, half of them crowded.
func randomState(t *testing.T, r *rand.Rand) api.State {
	t.Helper()
	all, draws := []int{1, 2, 3, 4, 5, 6, 7, 8, api.MaxId}, 1+9*r.Intn(2)
	a, b := some(r, all, 8, draws), some(r, all, 4, draws)
	of := func(from []int, most int) api.Cell { return ids(some(r, from, most, draws)...) }
	s := api.State{Types: types(t, kinds)}
	for _, id := range a {
		s.Things = append(s.Things, api.Thing{Type: 0, Id: id, Cells: []api.Cell{
			{N: r.Intn(9) - 4}, {Text: pick(r, "", "x", "\"")}, of(b, 1), of(a, api.MaxIds), of(b, api.MaxIds),
		}})
	}
	for _, id := range b {
		s.Things = append(s.Things, api.Thing{Type: 1, Id: id, Cells: []api.Cell{{N: r.Intn(9)}, of(a, 1), of(b, api.MaxIds)}})
	}
	if no := state.Check(s); no != api.OK {
		t.Fatalf("%v is no state: %d", s, no)
	}
	return s
}

// refFields: of a type and a name, where its cell is (-1: the id), and which type it is of.
var refFields = map[string]struct {
	cell int
	of   string
}{
	"A/id": {-1, ""}, "A/n": {0, ""}, "A/t": {1, ""}, "A/b": {2, "B"}, "A/l": {3, "A"}, "A/m": {4, "B"},
	"B/id": {-1, ""}, "B/n": {0, ""}, "B/a": {1, "A"}, "B/first": {2, "B"},
}

// refTell: the told answer, made another way: things lie in a map by what they are called, as "A1".
func refTell(things map[string]api.Thing, of string, id int, l []api.Select) string {
	thing, there := things[of+strconv.Itoa(id)]
	if !there {
		return "~"
	}
	var told []string
	for _, s := range l {
		name := s.Alias
		if name == "" {
			name = s.Name
		}
		told = append(told, name+"="+refField(things, of, thing, s))
	}
	return "{" + strings.Join(told, " ") + "}"
}

func refField(things map[string]api.Thing, of string, thing api.Thing, s api.Select) string {
	f := refFields[of+"/"+s.Name]
	if f.cell < 0 {
		return strconv.Itoa(thing.Id)
	}
	cell := thing.Cells[f.cell]
	switch s.Name {
	case "n":
		return strconv.Itoa(cell.N)
	case "t":
		return strconv.Quote(cell.Text)
	case "a", "b":
		return refTell(things, f.of, append(cell.Ids, 0)[0], s.Kids)
	}
	return refList(things, f.of, cell.Ids, s)
}

func refList(things map[string]api.Thing, of string, ids []int, s api.Select) string {
	var told []string
	for i, id := range ids {
		if len(s.Args) > 0 && i >= s.Args[0].N {
			break
		}
		told = append(told, refTell(things, of, id, s.Kids))
	}
	return "[" + strings.Join(told, " ") + "]"
}

func refAnswer(s api.State, l []api.Select) string {
	things := map[string]api.Thing{}
	all := map[string][]int{}
	for _, t := range s.Things {
		of := s.Types[t.Type].Name
		things[of+strconv.Itoa(t.Id)] = t
		all[of] = append(all[of], t.Id)
	}
	var told []string
	for _, s := range l {
		name, answer := s.Alias, ""
		if name == "" {
			name = s.Name
		}
		if len(s.Args) > 0 {
			answer = refTell(things, s.Name, s.Args[0].N, s.Kids)
		} else {
			answer = refList(things, s.Name, all[s.Name], s)
		}
		told = append(told, name+"="+answer)
	}
	return "{" + strings.Join(told, " ") + "}"
}

// randomSelect of a type, or of the query itself (no type).
func randomSelect(r *rand.Rand, of string, depth int) api.Select {
	s := api.Select{Name: pick(r, "id", "n", "t", "b", "l", "m")}
	below := ""
	switch of {
	case "":
		s.Name = pick(r, "A", "B")
		below = s.Name
	case "B":
		s.Name = pick(r, "id", "n", "a", "first")
	}
	if depth == api.MaxDepth {
		s.Name = pick(r, "id", "n")
	}
	if of != "" {
		below = refFields[of+"/"+s.Name].of
	}
	switch {
	case of == "" && r.Intn(2) == 0:
		s.Args = []api.Arg{{Name: "id", N: []int{1, 2, 3, 8, api.MaxId}[r.Intn(5)]}}
	case (s.Name == "l" || s.Name == "m" || s.Name == "first") && r.Intn(3) == 0:
		s.Args = []api.Arg{{Name: "first", N: r.Intn(4)}}
	}
	if below != "" {
		s.Kids = randomList(r, below, depth+1)
	}
	return s
}

// randomList of selects that fit, but that two may be called the same.
func randomList(r *rand.Rand, of string, depth int) []api.Select {
	var l []api.Select
	for range 1 + r.Intn(3) {
		s := randomSelect(r, of, depth)
		if r.Intn(3) == 0 {
			s.Alias = pick(r, "x", "y", "A", "n", "id")
		}
		l = append(l, s)
	}
	return l
}

// randomQuery that fits.
func randomQuery(t *testing.T, r *rand.Rand) []api.Select {
	for {
		l := randomList(r, "", 1)
		if valid.Query(types(t, kinds), l) == api.OK {
			return l
		}
	}
}

// refCount: how many outs a told answer has, itself too.
func refCount(told string) int {
	n := 0
	for _, begin := range []string{"{", "[", "~"} {
		n += strings.Count(told, begin) - strings.Count(told, "="+begin)
	}
	return n + strings.Count(told, "=")
}

// TestG1AgainstAnotherWay: random states and queries.
func TestG1AgainstAnotherWay(t *testing.T) {
	r := rand.New(rand.NewSource(15))
	met := map[api.Errno]int{}
	for range 6000 {
		s, l := randomState(t, r), randomQuery(t, r)
		o, no := Query(s, l)
		met[no]++
		want := refAnswer(s, l)
		if refCount(want) > api.MaxText {
			if no != api.ErrMany || !nothing(o) {
				t.Fatalf("Query(%v, %v): %v %d", s, l, o, no)
			}
			continue
		}
		if no != api.OK || tell(o) != want {
			t.Fatalf("Query(%v, %v): %s %d, not %s", s, l, tell(o), no, want)
		}
		if no := Check(o); no != api.OK {
			t.Fatalf("Query(%v, %v): %s, of which Check says %d", s, l, want, no)
		}
	}
	if met[api.OK] < 1000 || met[api.ErrMany] == 0 {
		t.Errorf("met %v", met)
	}
}

// added: the query with one select more, called new, at some place.
func added(r *rand.Rand, of string, l []api.Select, depth int) []api.Select {
	l = slices.Clone(l)
	i := r.Intn(len(l))
	if len(l[i].Kids) > 0 && r.Intn(3) > 0 {
		below := l[i].Name
		if of != "" {
			below = refFields[of+"/"+l[i].Name].of
		}
		l[i].Kids = added(r, below, l[i].Kids, depth+1)
		return l
	}
	s := randomSelect(r, of, depth)
	s.Alias = "new"
	return slices.Insert(l, i, s)
}

// without all keys that are called new.
func without(o api.Out) api.Out {
	left := api.Out{Kind: o.Kind, N: o.N, Text: o.Text}
	for i, in := range o.List {
		if o.Kind == api.OutMap {
			if o.Keys[i] == "new" {
				continue
			}
			left.Keys = append(left.Keys, o.Keys[i])
		}
		left.List = append(left.List, without(in))
	}
	return left
}

// TestG3ASelectMoreLeavesAllOthersAsTheyAre, wherever it is.
func TestG3ASelectMoreLeavesAllOthersAsTheyAre(t *testing.T) {
	r := rand.New(rand.NewSource(16))
	seen := 0
	for range 6000 {
		s, l := randomState(t, r), randomQuery(t, r)
		more := added(r, "", l, 1)
		if valid.Query(s.Types, more) != api.OK {
			continue
		}
		few, no := Query(s, l)
		many, moreNo := Query(s, more)
		if no != api.OK && moreNo != no {
			t.Fatalf("Query(%v, %v): %d, but %d with a select more", s, l, no, moreNo)
		}
		if no != api.OK || moreNo != api.OK {
			continue
		}
		if tell(without(many)) != tell(few) {
			t.Fatalf("Query(%v, %v): %s, but of %v: %s", s, l, tell(few), more, tell(many))
		}
		if tell(many) != tell(few) {
			seen++
		}
	}
	if seen < 2000 {
		t.Errorf("only %d answers had something more", seen)
	}
}

// TestP1WhateverItIsHanded ends, and answers nothing beside an error.
func TestP1WhateverItIsHanded(t *testing.T) {
	r := rand.New(rand.NewSource(17))
	odd := []int{-1 << 63, -1, 0, 1, 2, 3, 4, 5, 6, 1000, 1<<63 - 1}
	for range 10000 {
		s, l := randomState(t, r), randomList(r, pick(r, "", "", "A", "B"), 1)
		if len(s.Things) > 0 && r.Intn(2) == 0 {
			th := &s.Things[r.Intn(len(s.Things))]
			th.Cells[r.Intn(len(th.Cells))] = ids(odd[r.Intn(len(odd))])
			th.Type += r.Intn(2)
		}
		if o, no := Query(s, l); no == api.OK && Check(o) != api.OK || no != api.OK && !nothing(o) {
			t.Fatalf("Query(%v, %v): %v %d", s, l, o, no)
		}
		var grow func(depth int) api.Out
		grow = func(depth int) api.Out {
			o := api.Out{Kind: odd[r.Intn(len(odd))], N: odd[r.Intn(len(odd))] % 2}
			for range r.Intn(4) * depth {
				o.List = append(o.List, grow(depth-1))
				o.Keys = append(o.Keys, pick(r, "a", "b", "", "1"))
			}
			return o
		}
		Check(grow(2))
	}
}

// TestP2WhatIsHandedInIsOnlyRead, the spare room too.
func TestP2WhatIsHandedInIsOnlyRead(t *testing.T) {
	fresh := func() (api.State, []api.Select) {
		return world(t), selects(t, "{A(id:1 x:1){n l(first:2){id n}b{n}}B{n}}")
	}
	room, l := fresh()
	want, wantList := fresh()
	room.Things = append(room.Things, api.Thing{Type: 1, Id: 77})
	many := room.Things[0].Cells[3].Ids
	room.Things[0].Cells[3].Ids = many[:2]
	handed := []api.Select{{Name: "A", Args: l[0].Args[:1], Kids: l[0].Kids[:2]}, {Name: "spare"}}
	s := api.State{Types: room.Types, Things: room.Things[:5]}
	checkAnswer(t, s, handed[:1], "{A={n=5 l=[{id=1 n=5} {id=2 n=-999999999}]}}")
	room.Things[0].Cells[3].Ids = many
	if room.Things[5].Id != 77 || handed[1].Name != "spare" {
		t.Errorf("the spare room was written to: %v %v", room.Things[5], handed[1])
	}
	room.Things = room.Things[:5]
	if !reflect.DeepEqual(room, want) || !reflect.DeepEqual(l, wantList) {
		t.Errorf("it is %v and %v, and was %v and %v", room, l, want, wantList)
	}
	outs, keys := []api.Out{none(), number(1), words("x"), {Kind: 77}}, []string{"a", "b", "c", "spare"}
	checkCheck(t, api.Out{Kind: api.OutMap, Keys: keys[:3], List: outs[:3]}, api.OK)
	if tell(list(outs[:3]...)) != `[~ 1 "x"]` || outs[3].Kind != 77 || !slices.Equal(keys, []string{"a", "b", "c", "spare"}) {
		t.Errorf("it is %v and %v", outs, keys)
	}
}

// spoil every list of an out, up to the end of its room.
func spoil(o api.Out) {
	for _, in := range o.List {
		spoil(in)
	}
	clear(o.Keys[:cap(o.Keys)])
	clear(o.List[:cap(o.List)])
}

// TestP2P3AnswersAreNew: what is done to an answer changes neither what was handed in, nor a later answer.
func TestP2P3AnswersAreNew(t *testing.T) {
	const text, want = "{A(id:1){l{id l{n}}}B{id}}", "{A={l=[{id=1 l=[{n=5} {n=-999999999} {n=0}]} {id=2 l=[]} {id=10 l=[{n=-999999999}]}]} B=[{id=3} {id=4}]}"
	s, l := world(t), selects(t, text)
	first, _ := Query(s, l)
	spoil(first)
	if !reflect.DeepEqual(s, world(t)) || !reflect.DeepEqual(l, selects(t, text)) {
		t.Errorf("what was handed in is %v and %v", s, l)
	}
	checkAnswer(t, s, l, want)
}

// TestP2NoTwoListsOfAnAnswerShareMemory: maps made of the same selects, and of the same thing, among them.
func TestP2NoTwoListsOfAnAnswerShareMemory(t *testing.T) {
	o, _ := Query(world(t), selects(t, "{x:A{l{id}}y:A{l{id}}}"))
	want := tell(o.List[1])
	wantLast := tell(o.List[0].List[2])
	spoil(o.List[0].List[0])
	if tell(o.List[1]) != want || tell(o.List[0].List[2]) != wantLast {
		t.Errorf("it is %v", o)
	}
}
