package parse

import (
	"strconv"
	"strings"

	"halyard/api"
)

const maxDigits = 9

// Text is bytes that are gone through from the first one on. Where its calls find something else than they must, they panic with a Fault of ErrForm.
type Text struct {
	rest string
}

// NewText of bytes.
func NewText(s string) *Text {
	return &Text{rest: s}
}

// Ended: whether no byte is left.
func (t *Text) Ended() bool {
	return t.rest == ""
}

// End of the text, which must be reached.
func (t *Text) End() {
	if !t.Ended() {
		panic(Fault(api.ErrForm))
	}
}

// Peek at the next byte, which must be there, and stays.
func (t *Text) Peek() byte {
	if t.Ended() {
		panic(Fault(api.ErrForm))
	}
	return t.rest[0]
}

// Next byte, which must be there, and is passed.
func (t *Text) Next() byte {
	c := t.Peek()
	t.rest = t.rest[1:]
	return c
}

// Take the next n bytes, which must be there, and are passed.
func (t *Text) Take(n int) string {
	if n > len(t.rest) {
		panic(Fault(api.ErrForm))
	}
	taken := t.rest[:n]
	t.rest = t.rest[n:]
	return taken
}

// Skip a piece, if it comes next: whether it did.
func (t *Text) Skip(piece string) bool {
	rest, came := strings.CutPrefix(t.rest, piece)
	t.rest = rest
	return came
}

// Piece that must come next.
func (t *Text) Piece(piece string) {
	if !t.Skip(piece) {
		panic(Fault(api.ErrForm))
	}
}

// Pass the bytes that may be passed, as long as they go, and answer them.
func (t *Text) Pass(may func(c byte) bool) string {
	n := 0
	for n < len(t.rest) && may(t.rest[n]) {
		n++
	}
	passed := t.rest[:n]
	t.rest = t.rest[n:]
	return passed
}

// Quoted text that must come next, between `"`: what it tells. Bytes that may stand alone there tell themselves; told goes on behind a `\`. It is gone through whole, however long: where it does not end, it is no text, and so not one that tells too much.
func (t *Text) Quoted(alone func(c byte) bool, told func() byte) string {
	t.Piece(`"`)
	var tells []byte
	for {
		switch c := t.Next(); {
		case c == '"':
			return string(tells)
		case c == '\\':
			tells = append(tells, told())
		case alone(c):
			tells = append(tells, c)
		default:
			panic(Fault(api.ErrForm))
		}
	}
}

// Number that must come next.
func (t *Text) Number() int {
	minus := t.Skip("-")
	digits := t.Pass(IsDigit)
	if !isNumber(minus, digits) {
		panic(Fault(api.ErrForm))
	}
	n, err := strconv.Atoi(digits)
	if err != nil {
		panic(Fault(api.ErrForm))
	}
	if minus {
		return -n
	}
	return n
}

func isNumber(minus bool, digits string) bool {
	if digits == "" || len(digits) > maxDigits {
		return false
	}
	return digits[0] != '0' || digits == "0" && !minus
}

// IsDigit: whether c is one of a number's.
func IsDigit(c byte) bool {
	return '0' <= c && c <= '9'
}
