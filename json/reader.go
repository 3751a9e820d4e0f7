package json

import (
	"strings"

	"halyard/api"
	"halyard/parse"
)

// What is read here panics with a parse.Fault where it can't go on. What Check tells of is let through, however deep or long: something that has not the form may come behind it, and goes first.

func whole(t *parse.Text) api.Out {
	o := readOut(t)
	t.End()
	return o
}

func readOut(t *parse.Text) api.Out {
	switch t.Peek() {
	case 'n':
		t.Piece(wordNone)
		return api.Out{Kind: api.OutNone}
	case '"':
		text := t.Quoted(alone, func() byte { return told(t) })
		return api.Out{Kind: api.OutText, Text: text}
	case '[':
		return readList(t)
	case '{':
		return readMap(t)
	}
	return api.Out{Kind: api.OutNumber, N: t.Number()}
}

func readList(t *parse.Text) api.Out {
	o := api.Out{Kind: api.OutList}
	readAll(t, "[", "]", func() { o.List = append(o.List, readOut(t)) })
	return o
}

func readMap(t *parse.Text) api.Out {
	o := api.Out{Kind: api.OutMap}
	readAll(t, "{", "}", func() {
		o.Keys = append(o.Keys, readKey(t))
		t.Piece(":")
		o.List = append(o.List, readOut(t))
	})
	return o
}

// readAll that stands in brackets: pieces, of which read reads each, with `,` between.
func readAll(t *parse.Text, open, shut string, read func()) {
	t.Piece(open)
	if t.Skip(shut) {
		return
	}
	for {
		read()
		if t.Skip(shut) {
			return
		}
		t.Piece(",")
	}
}

// readKey, which stands between `"` as it is: nothing in it is told by a `\`.
func readKey(t *parse.Text) string {
	t.Piece(`"`)
	key := t.Pass(func(c byte) bool { return c != '"' })
	t.Piece(`"`)
	// A clone: a piece of the text would keep all of it.
	return strings.Clone(key)
}

// told: the byte that a text tells by a `\` and what comes behind it, if it is printed just so.
func told(t *parse.Text) byte {
	switch c := t.Next(); c {
	case '"', '\\':
		return c
	case 'n':
		return '\n'
	case 'u':
		return toldByDigits(t)
	}
	panic(parse.Fault(api.ErrForm))
}

func toldByDigits(t *parse.Text) byte {
	t.Piece("00")
	high := strings.IndexByte(hexDigits, t.Next())
	low := strings.IndexByte(hexDigits, t.Next())
	if high < 0 || low < 0 {
		panic(parse.Fault(api.ErrForm))
	}
	c := byte(16*high + low)
	if alone(c) || c == '\n' {
		panic(parse.Fault(api.ErrForm))
	}
	return c
}
