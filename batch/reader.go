package batch

import (
	"strings"

	"halyard/api"
	"halyard/parse"
	"halyard/parts"
)

// What is read here panics with a parse.Fault where it can't go on. What Check tells of is let through: something that has not the form may come behind it, and goes first.

// readBatch that the whole text is.
func readBatch(t *parse.Text) api.Batch {
	b := api.Batch{Number: readNumber(t, sizeNumber)}
	for range readNumber(t, sizeCount) {
		b.Events = append(b.Events, readEvent(t))
	}
	t.End()
	return b
}

func readEvent(t *parse.Text) api.Event {
	e := api.Event{Kind: readNumber(t, sizeKind)}
	if !parts.IsEventKind(e.Kind) {
		// Nobody can tell how long it is.
		panic(parse.Fault(api.ErrForm))
	}
	e.Type = readNumber(t, sizeType)
	e.Id = readNumber(t, sizeId)
	if parts.NamesField(e.Kind) {
		e.Field = readNumber(t, sizeField)
	}
	if parts.NamesNumber(e.Kind) {
		e.N = readNumber(t, sizeN) - api.MaxInt
	}
	if parts.NamesText(e.Kind) {
		// A clone: a piece of the text would keep all of it.
		e.Text = strings.Clone(t.Take(readNumber(t, sizeText)))
	}
	return e
}

// readNumber of so many bytes, the greatest first.
func readNumber(t *parse.Text, size int) int {
	n := 0
	for range size {
		n = n<<8 | int(t.Next())
	}
	return n
}
