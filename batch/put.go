package batch

import (
	"halyard/api"
	"halyard/parts"
)

// How many bytes each number has.
const (
	sizeFollows = 2
	sizeNumber  = 2
	sizeCount   = 1
	sizeKind    = 1
	sizeType    = 1
	sizeId      = 2
	sizeField   = 1
	sizeN       = 4
	sizeText    = 1
)

// putBatch that is right behind bytes, without how many follow.
func putBatch(to []byte, b api.Batch) []byte {
	to = putNumber(to, sizeNumber, b.Number)
	to = putNumber(to, sizeCount, len(b.Events))
	for _, e := range b.Events {
		to = putEvent(to, e)
	}
	return to
}

func putEvent(to []byte, e api.Event) []byte {
	to = putNumber(to, sizeKind, e.Kind)
	to = putNumber(to, sizeType, e.Type)
	to = putNumber(to, sizeId, e.Id)
	if parts.NamesField(e.Kind) {
		to = putNumber(to, sizeField, e.Field)
	}
	if parts.NamesNumber(e.Kind) {
		// So that it is not below 0.
		to = putNumber(to, sizeN, e.N+api.MaxInt)
	}
	if parts.NamesText(e.Kind) {
		to = putNumber(to, sizeText, len(e.Text))
		to = append(to, e.Text...)
	}
	return to
}

// putNumber in so many bytes, the greatest first.
func putNumber(to []byte, size, n int) []byte {
	for i := size - 1; i >= 0; i-- {
		to = append(to, byte(n>>(8*i)))
	}
	return to
}
