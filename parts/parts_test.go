package parts

import (
	"reflect"
	"testing"

	"halyard/api"
)

func TestTypeNamed(t *testing.T) {
	types := []api.Type{{Name: "A"}, {Name: "B"}, {Name: "B"}}
	for _, c := range []struct {
		name string
		want int
	}{{"A", 0}, {"B", 1}, {"C", -1}, {"", -1}} {
		if i := TypeNamed(types, c.name); i != c.want {
			t.Errorf("TypeNamed(%q): %d, not %d", c.name, i, c.want)
		}
	}
}

func TestFieldNamed(t *testing.T) {
	fields := []api.Field{{Name: "n"}, {Name: "m"}, {Name: "m"}}
	for _, c := range []struct {
		name string
		want int
	}{{"n", 0}, {"m", 1}, {"N", -1}, {"", -1}} {
		if i := FieldNamed(fields, c.name); i != c.want {
			t.Errorf("FieldNamed(%q): %d, not %d", c.name, i, c.want)
		}
	}
}

func TestCalled(t *testing.T) {
	if name := Called(api.Select{Name: "a"}); name != "a" {
		t.Errorf("without an alias: %q", name)
	}
	if name := Called(api.Select{Alias: "x", Name: "a"}); name != "x" {
		t.Errorf("with an alias: %q", name)
	}
}

func TestThingAt(t *testing.T) {
	things := []api.Thing{{Type: 0, Id: 2}, {Type: 0, Id: 10}, {Type: 2, Id: 1}}
	for _, c := range []struct {
		of, id, want int
		there        bool
	}{
		{0, 1, 0, false}, {0, 2, 0, true}, {0, 3, 1, false}, {0, 10, 1, true}, {0, 11, 2, false},
		{1, 1, 2, false}, {2, 1, 2, true}, {2, 2, 3, false}, {-1, 2, 0, false},
	} {
		if at, there := ThingAt(things, c.of, c.id); at != c.want || there != c.there {
			t.Errorf("ThingAt(%d, %d): %d %v, not %d %v", c.of, c.id, at, there, c.want, c.there)
		}
	}
	if at, there := ThingAt(nil, 0, 1); at != 0 || there {
		t.Errorf("of none: %d %v", at, there)
	}
}

func sample() api.State {
	ids := []int{1, 2}
	cells := []api.Cell{{N: 5}, {Text: "t"}, {Ids: ids}, {Ids: ids}}
	return api.State{
		Types:  []api.Type{{Name: "A", Fields: []api.Field{{Name: "n", Kind: api.FieldNumber}, {Name: "l", Kind: api.FieldMany, Of: "A"}}}},
		Things: []api.Thing{{Type: 0, Id: 1, Cells: cells}, {Type: 0, Id: 2, Cells: cells}},
	}
}

// TestCloneState: all of it is there, no list of it is that of the first one, and none is another one's.
func TestCloneState(t *testing.T) {
	first := sample()
	second := CloneState(first)
	if !reflect.DeepEqual(second, sample()) {
		t.Fatalf("it is %v", second)
	}
	second.Types[0].Fields[0].Name, second.Types[0].Name = "x", "x"
	second.Things[0].Cells[2].Ids[0] = 9
	second.Things[0].Cells[0].N, second.Things[0].Id = 9, 9
	if !reflect.DeepEqual(first, sample()) {
		t.Errorf("the first one is %v", first)
	}
	if !reflect.DeepEqual(second.Things[1], sample().Things[1]) || second.Things[0].Cells[3].Ids[0] != 1 {
		t.Errorf("two lists share memory: %v", second)
	}
}

// TestCloneOfEmptyLists has no room that is the first one's.
func TestCloneOfEmptyLists(t *testing.T) {
	room := []int{7}
	first := api.State{Things: []api.Thing{{Cells: []api.Cell{{Ids: room[:0]}}}}}
	second := CloneState(first)
	if ids := second.Things[0].Cells[0].Ids; cap(ids) != 0 || len(second.Types) != 0 {
		t.Errorf("it is %v", second)
	}
}
