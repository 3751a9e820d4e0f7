package json

import (
	libjson "encoding/json"
	"math/rand"
	"reflect"
	"slices"
	"strconv"
	"testing"

	"halyard/api"
)

func randomWords(r *rand.Rand) string {
	b := make([]byte, r.Intn(8))
	for i := range b {
		b[i] = []byte{'"', '\\', '\n', 'n', 'u', '0', byte(r.Intn(32)), byte(r.Intn(256))}[r.Intn(8)]
	}
	return string(b)
}

// randomOut that Check takes.
func randomOut(r *rand.Rand, depth int) api.Out {
	kind := 1 + r.Intn(5)
	if depth == 0 {
		kind = 1 + r.Intn(3)
	}
	o := api.Out{Kind: kind}
	switch kind {
	case api.OutNumber:
		o.N = (r.Intn(2*api.MaxInt+1) - api.MaxInt) / []int{1, 10, 1000, 100000000}[r.Intn(4)]
	case api.OutText:
		o.Text = randomWords(r)
	case api.OutList, api.OutMap:
		for range r.Intn(4) {
			o.List = append(o.List, randomOut(r, depth-1))
		}
	}
	if kind == api.OutMap {
		for i := range o.List {
			o.Keys = append(o.Keys, []string{"a", "_", "Z9", "null", "abcdefghijk"}[r.Intn(5)]+strconv.Itoa(i))
		}
	}
	return o
}

// TestH2WhatIsPrintedIsReadAsItWas, and nothing that is near to it, if it is not printed just so.
func TestH2WhatIsPrintedIsReadAsItWas(t *testing.T) {
	r := rand.New(rand.NewSource(18))
	near := 0
	for range 20000 {
		o := randomOut(r, 4)
		s, no := Print(o)
		if no != api.OK {
			t.Fatalf("Print(%v): %d", o, no)
		}
		if got, no := Read(s); no != api.OK || !same(got, o) {
			t.Fatalf("Read(%q): %v %d, not %v", s, got, no, o)
		}
		for range 5 {
			near += checkPrintedJustSo(t, changed(r, s))
		}
	}
	if near < 1000 {
		t.Errorf("only %d of the changed texts were read", near)
	}
}

// changed: a text with a byte more, or less, or another one.
func changed(r *rand.Rand, s string) string {
	const signs = "\"\\,:[]{}-01nul a\n"
	b := []byte(s)
	i := r.Intn(len(b))
	switch c := signs[r.Intn(len(signs))]; r.Intn(3) {
	case 0:
		b = slices.Insert(b, i, c)
	case 1:
		b = slices.Delete(b, i, i+1)
	default:
		b[i] = c
	}
	return string(b)
}

// checkPrintedJustSo: what is read is printed as it was; beside an error nothing is. It answers how many were read.
func checkPrintedJustSo(t *testing.T, s string) int {
	t.Helper()
	o, no := Read(s)
	if no != api.OK {
		if !same(o, api.Out{}) {
			t.Fatalf("Read(%q): %v %d", s, o, no)
		}
		return 0
	}
	if again, no := Print(o); again != s || no != api.OK {
		t.Fatalf("Read(%q): %v, which is printed %q %d", s, o, again, no)
	}
	return 1
}

// TestH2AllShortTexts: those that are read are those that are printed, no more and no less.
func TestH2AllShortTexts(t *testing.T) {
	const alphabet, most = "0-1\"\\na,:[]{} ", 5
	short := map[string]int{}
	for _, o := range smallOuts() {
		if s, no := Print(o); no == api.OK && len(s) <= most {
			short[s]++
		}
	}
	read := 0
	var grow func(s string)
	grow = func(s string) {
		read += checkPrintedJustSo(t, s)
		if len(s) == most {
			return
		}
		for i := range len(alphabet) {
			grow(s + alphabet[i:i+1])
		}
	}
	grow("")
	if read != len(short) || read < 200 {
		t.Errorf("%d were read, %d are printed", read, len(short))
	}
	for s, n := range short {
		if n != 1 {
			t.Errorf("%d outs are printed %q", n, s)
		}
	}
}

// smallOuts: all outs that may be printed by at most five bytes of the alphabet above, and some that are not; but for null, whose bytes it has not all.
func smallOuts() []api.Out {
	var l []api.Out
	for n := range 100000 {
		if onlyBytes(strconv.Itoa(n), "01") {
			l = append(l, number(n))
			if n > 0 {
				l = append(l, number(-n))
			}
		}
	}
	texts := []string{""}
	for i := 0; i < len(texts); i++ {
		l = append(l, words(texts[i]))
		if len(texts[i]) == 3 {
			continue
		}
		for _, c := range []byte("0-1\"\\na,:[]{} \n") {
			texts = append(texts, texts[i]+string([]byte{c}))
		}
	}
	l = append(l, list(), api.Out{Kind: api.OutMap})
	// In a list: what was made so far, that which is short; twice, as lists lie in lists.
	for range 2 {
		l = append(l, listed(l)...)
	}
	return unique(l)
}

// listed: lists of one of the outs, and of two.
func listed(l []api.Out) []api.Out {
	var short, lists []api.Out
	for _, o := range l {
		if s, no := Print(o); no == api.OK && len(s) <= 3 {
			short = append(short, o)
		}
	}
	for _, a := range short {
		lists = append(lists, list(a))
		for _, b := range short {
			lists = append(lists, list(a, b))
		}
	}
	return lists
}

func unique(l []api.Out) []api.Out {
	met := map[string]int{}
	return slices.DeleteFunc(l, func(o api.Out) bool {
		// By what it holds, and not by how it is printed, which is what is asked.
		key, _ := libjson.Marshal(o)
		met[string(key)]++
		return met[string(key)] > 1
	})
}

func onlyBytes(s, of string) bool {
	for i := range len(s) {
		if !slices.Contains([]byte(of), s[i]) {
			return false
		}
	}
	return true
}

// meant: an out as the library of the language tells it.
func meant(o api.Out) any {
	switch o.Kind {
	case api.OutNumber:
		return float64(o.N)
	case api.OutText:
		return o.Text
	case api.OutList:
		l := []any{}
		for _, in := range o.List {
			l = append(l, meant(in))
		}
		return l
	case api.OutMap:
		m := map[string]any{}
		for i, key := range o.Keys {
			m[key] = meant(o.List[i])
		}
		return m
	}
	return nil
}

// ascii: an out whose texts have no byte above 127, which the library would take for parts of others.
func ascii(o api.Out) api.Out {
	b := []byte(o.Text)
	for i := range b {
		b[i] &= 127
	}
	o.Text = string(b)
	o.List = slices.Clone(o.List)
	for i := range o.List {
		o.List[i] = ascii(o.List[i])
	}
	return o
}

// TestH1OthersReadItToo: what is printed means the same to the library of the language.
func TestH1OthersReadItToo(t *testing.T) {
	r := rand.New(rand.NewSource(19))
	for range 5000 {
		o := ascii(randomOut(r, 4))
		s, _ := Print(o)
		var got any
		if err := libjson.Unmarshal([]byte(s), &got); err != nil || !reflect.DeepEqual(got, meant(o)) {
			t.Fatalf("%q is %v: %v", s, got, err)
		}
	}
}

// TestP1WhateverItIsHanded ends, and answers nothing beside an error.
func TestP1WhateverItIsHanded(t *testing.T) {
	r := rand.New(rand.NewSource(20))
	for range 20000 {
		b := make([]byte, r.Intn(30))
		for i := range b {
			b[i] = []byte{'"', '\\', '[', ']', '{', '}', ',', ':', '-', '1', 'u', '0', byte(r.Intn(256))}[r.Intn(13)]
		}
		checkPrintedJustSo(t, string(b))
		o := randomOut(r, 3)
		o.Kind, o.N = r.Intn(8)-1, r.Intn(3)-1
		if s, no := Print(o); no != api.OK && s != "" {
			t.Fatalf("Print(%v): %q %d", o, s, no)
		}
	}
}

// TestP2WhatIsHandedInIsOnlyRead, the spare room too.
func TestP2WhatIsHandedInIsOnlyRead(t *testing.T) {
	outs, keys := []api.Out{none(), number(1), list(words("x")), {Kind: 77}}, []string{"a", "b", "c", "spare"}
	s, no := Print(api.Out{Kind: api.OutMap, Keys: keys[:3], List: outs[:3]})
	if s != `{"a":null,"b":1,"c":["x"]}` || no != api.OK {
		t.Errorf("Print: %q %d", s, no)
	}
	if !reflect.DeepEqual(outs, []api.Out{none(), number(1), list(words("x")), {Kind: 77}}) || !slices.Equal(keys, []string{"a", "b", "c", "spare"}) {
		t.Errorf("it is %v and %v", outs, keys)
	}
}

// spoil every list of an out, up to the end of its room.
func spoil(o api.Out) {
	for _, in := range o.List {
		spoil(in)
	}
	clear(o.Keys[:cap(o.Keys)])
	clear(o.List[:cap(o.List)])
}

// TestP2P3AnswersAreNew: what is done to an answer changes no later one, and what is done to a list of it no other one.
func TestP2P3AnswersAreNew(t *testing.T) {
	const text = `{"a":[1,2,3],"b":{"a":[1,2,3],"b":[]},"c":{"a":[1,2,3],"b":[]}}`
	o, _ := Read(text)
	spoil(o)
	o, no := Read(text)
	checkBoth(t, o, text)
	if no != api.OK {
		t.Fatalf("Read: %d", no)
	}
	spoil(o.List[0])
	spoil(o.List[1])
	if s, no := Print(o.List[2]); s != `{"a":[1,2,3],"b":[]}` || no != api.OK {
		t.Errorf("it is %q %d", s, no)
	}
}
