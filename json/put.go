package json

import (
	"strconv"
	"strings"

	"halyard/api"
)

const (
	wordNone  = "null"
	hexDigits = "0123456789abcdef"
)

func putOut(b *strings.Builder, o api.Out) {
	switch o.Kind {
	case api.OutNone:
		b.WriteString(wordNone)
	case api.OutNumber:
		b.WriteString(strconv.Itoa(o.N))
	case api.OutText:
		putText(b, o.Text)
	case api.OutList:
		putAll(b, "[", "]", len(o.List), func(i int) { putOut(b, o.List[i]) })
	case api.OutMap:
		putAll(b, "{", "}", len(o.List), func(i int) {
			b.WriteString(`"` + o.Keys[i] + `":`)
			putOut(b, o.List[i])
		})
	}
}

// putAll that stands in brackets: n pieces, of which put puts each, with `,` between.
func putAll(b *strings.Builder, open, shut string, n int, put func(i int)) {
	b.WriteString(open)
	for i := range n {
		if i > 0 {
			b.WriteByte(',')
		}
		put(i)
	}
	b.WriteString(shut)
}

func putText(b *strings.Builder, text string) {
	b.WriteByte('"')
	for i := range len(text) {
		putByte(b, text[i])
	}
	b.WriteByte('"')
}

// putByte of a text.
func putByte(b *strings.Builder, c byte) {
	switch {
	case c == '"' || c == '\\':
		b.WriteByte('\\')
		b.WriteByte(c)
	case c == '\n':
		b.WriteString(`\n`)
	case !alone(c):
		b.WriteString(`\u00`)
		b.WriteByte(hexDigits[c/16])
		b.WriteByte(hexDigits[c%16])
	default:
		b.WriteByte(c)
	}
}

// alone: whether a byte that is neither `"` nor `\` tells itself in a text.
func alone(c byte) bool {
	return c >= ' '
}
