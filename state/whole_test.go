package state

import (
	"math/rand"
	"sort"
	"strings"
	"testing"

	"halyard/api"
)

// model of a state, kept another way: what is in each field of each thing.
type model map[[2]int][]value

type value struct {
	n    int
	text string
	ids  map[int]int
}

// refKinds: of each field, its event (5 for links), the type it is of, how many it may have.
var refKinds = [][][3]int{{{3, 0, 0}, {4, 0, 0}, {5, 1, 1}, {5, 0, 6}}, {{3, 0, 0}, {5, 1, 1}}}

func (m model) state() api.State {
	s := with()
	var keys [][2]int
	for k := range m {
		keys = append(keys, k)
	}
	sort.Slice(keys, func(i, j int) bool { return keys[i][0]*10000+keys[i][1] < keys[j][0]*10000+keys[j][1] })
	for _, k := range keys {
		t := api.Thing{Type: k[0], Id: k[1]}
		for _, v := range m[k] {
			c := api.Cell{N: v.n, Text: v.text}
			for id := range v.ids {
				c.Ids = append(c.Ids, id)
			}
			sort.Ints(c.Ids)
			t.Cells = append(t.Cells, c)
		}
		s.Things = append(s.Things, t)
	}
	return s
}

// do an event, or say why not.
func (m model) do(e api.Event) api.Errno {
	key := [2]int{e.Type, e.Id}
	thing, there := m[key]
	if e.Kind == api.EventMake {
		if there {
			return api.ErrTwice
		}
		if len(m) == 12 {
			return api.ErrMany
		}
		m[key] = nil
		for range refKinds[e.Type] {
			m[key] = append(m[key], value{ids: map[int]int{}})
		}
		return api.OK
	}
	if !there {
		return api.ErrNone
	}
	if e.Kind == api.EventDrop {
		for k, values := range m {
			for i, v := range values {
				if refKinds[k[0]][i][1] == e.Type && v.ids[e.Id] == 1 {
					return api.ErrState
				}
			}
		}
		delete(m, key)
		return api.OK
	}
	if e.Field < 0 || e.Field >= len(thing) {
		return api.ErrNone
	}
	return m.change(&thing[e.Field], refKinds[e.Type][e.Field], e)
}

func (m model) change(v *value, kind [3]int, e api.Event) api.Errno {
	if min(e.Kind, 5) != kind[0] {
		return api.ErrKind
	}
	_, meant := m[[2]int{kind[1], e.N}]
	has := v.ids[e.N] == 1
	switch {
	case e.Kind == api.EventNumber && (e.N > 999999999 || e.N < -999999999):
		return api.ErrRange
	case e.Kind == api.EventNumber:
		v.n = e.N
	case e.Kind == api.EventText && len(e.Text) > 40:
		return api.ErrMany
	case e.Kind == api.EventText:
		v.text = e.Text
	case e.Kind == api.EventCut && !has, e.Kind == api.EventLink && !meant:
		return api.ErrNone
	case e.Kind == api.EventCut:
		delete(v.ids, e.N)
	case has:
		return api.ErrTwice
	case len(v.ids) == kind[2] && kind[2] == 6:
		return api.ErrMany
	case kind[2] == 1:
		v.ids = map[int]int{e.N: 1}
	default:
		v.ids[e.N] = 1
	}
	return api.OK
}

func randomEvent(r *rand.Rand) api.Event {
	e := api.Event{Kind: 1 + r.Intn(6), Type: r.Intn(3) / 2, Id: 1 + r.Intn(9)}
	if e.Kind >= api.EventNumber {
		e.Field = r.Intn(5)
	}
	// More links than what takes them away, so that there are many.
	if (e.Kind == api.EventDrop || e.Kind == api.EventCut) && r.Intn(4) > 0 {
		e = api.Event{Kind: api.EventLink, Id: 1 + r.Intn(2), Field: fieldB + r.Intn(2)}
	}
	switch {
	case e.Kind == api.EventText:
		e.Text = strings.Repeat("w", []int{0, 1, 40, 41}[r.Intn(4)])
	case e.Kind == api.EventNumber:
		e.N = []int{0, 5, -5, api.MaxInt, -api.MaxInt, api.MaxInt + 1, -api.MaxInt - 1}[r.Intn(7)]
	case e.Kind > api.EventText:
		e.N = r.Intn(10)
	}
	return e
}

// TestD2AgainstAModel: long rows of events, of which those that can't be done are passed.
func TestD2AgainstAModel(t *testing.T) {
	r := rand.New(rand.NewSource(7))
	met := map[[2]int]int{}
	for range 40 {
		s, m := with(), model{}
		for range 500 {
			e := randomEvent(r)
			next, no := Do(s, e)
			if want := m.do(e); no != want {
				t.Fatalf("Do(%v, %v): %d, not %d", s, e, no, want)
			}
			met[[2]int{e.Kind, int(no)}]++
			if no != api.OK {
				continue
			}
			if !same(next, m.state()) {
				t.Fatalf("Do(%v, %v): %v, not %v", s, e, next, m.state())
			}
			s = next
		}
	}
	for _, want := range [][2]api.Errno{{1, 0}, {1, api.ErrTwice}, {1, api.ErrMany}, {2, 0}, {2, api.ErrState}, {3, 0}, {3, api.ErrRange},
		{4, 0}, {4, api.ErrMany}, {5, 0}, {5, api.ErrTwice}, {5, api.ErrMany}, {5, api.ErrNone}, {6, 0}, {6, api.ErrNone}, {6, api.ErrKind}} {
		if met[[2]int{int(want[0]), int(want[1])}] == 0 {
			t.Errorf("no event of kind %d answered %d", want[0], want[1])
		}
	}
}

// TestD4WhatIsDoneIsUndone, from wherever; and every id means something, all the time.
func TestD4WhatIsDoneIsUndone(t *testing.T) {
	r := rand.New(rand.NewSource(8))
	undone, gone := 0, 0
	for range 40 {
		s := with()
		for range 500 {
			e := randomEvent(r)
			next, no := Do(s, e)
			back, undoNo := Undo(s, e)
			if no != api.OK {
				if undoNo != no {
					t.Fatalf("Do(%v, %v): %d, Undo: %d", s, e, no, undoNo)
				}
				continue
			}
			if no := Check(next); no != api.OK {
				t.Fatalf("Do(%v, %v): %v, of which Check says %d", s, e, next, no)
			}
			if undoNo != api.OK {
				gone++
				if e.Kind != api.EventDrop || undoNo != api.ErrState || same(s, redone(next, e)) {
					t.Fatalf("Undo(%v, %v): %d", s, e, undoNo)
				}
			} else if was, no := Do(next, back); no != api.OK || !same(was, s) {
				t.Fatalf("behind %v and %v it is %v %d, not %v", e, back, was, no, s)
			} else {
				undone++
			}
			s = next
		}
	}
	if undone < 1000 || gone == 0 {
		t.Errorf("%d events were undone, %d not", undone, gone)
	}
}

// redone: a state with the thing that was dropped made again.
func redone(s api.State, e api.Event) api.State {
	out, _ := Do(s, makes(e.Type, e.Id))
	return out
}

// TestP1WhateverItIsHanded: states and events with something wrong anywhere.
func TestP1WhateverItIsHanded(t *testing.T) {
	r := rand.New(rand.NewSource(9))
	odd := []int{-1 << 63, -1, 0, 1, 2, 3, 9, 1000, 1<<63 - 1}
	pick := func() int { return odd[r.Intn(len(odd))] }
	for range 20000 {
		s := busy()
		for range r.Intn(3) {
			th := &s.Things[r.Intn(len(s.Things))]
			switch r.Intn(6) {
			case 0:
				th.Type = pick()
			case 1:
				th.Id = pick()
			case 2:
				th.Cells = make([]api.Cell, r.Intn(6))
			case 3:
				s.Types = s.Types[:r.Intn(len(s.Types)+1)]
			default:
				if len(th.Cells) > 0 {
					th.Cells[r.Intn(len(th.Cells))] = api.Cell{N: pick() % 2, Ids: []int{pick(), pick()}[:r.Intn(3)]}
				}
			}
		}
		e := api.Event{Kind: r.Intn(8), Type: pick(), Id: pick(), Field: pick(), N: pick()}
		checkNothingBesideAnError(t, s, e)
	}
}

func checkNothingBesideAnError(t *testing.T, s api.State, e api.Event) {
	t.Helper()
	out, no := Do(s, e)
	if wrong := Check(s); wrong != api.OK && no != wrong {
		t.Fatalf("Do(%v, %v): %d, but Check says %d", s, e, no, wrong)
	}
	if no == api.OK && Check(out) != api.OK || no != api.OK && len(out.Types)+len(out.Things) > 0 {
		t.Fatalf("Do(%v, %v): %v %d", s, e, out, no)
	}
	back, undoNo := Undo(s, e)
	if no != api.OK && (undoNo != no || back != (api.Event{})) {
		t.Fatalf("Undo(%v, %v): %v %d, but Do: %d", s, e, back, undoNo, no)
	}
}
