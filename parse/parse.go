// Package parse: what the readers of the layers share: giving up from deep inside, and going through bytes and tokens.
package parse

import (
	"strconv"

	"halyard/api"
)

// Fault is the error that a reader panics with where it can't go on.
type Fault api.Errno

func (f Fault) Error() string {
	return "halyard: gave up with error " + strconv.Itoa(int(f))
}

// Caught does the work, and answers what it gave up with, or OK.
func Caught(work func()) (no api.Errno) {
	defer func() {
		r := recover()
		if r == nil {
			return
		}
		fault, ok := r.(Fault)
		if !ok {
			// Not given up but broken: taken for an answer, it would hide a mistake of the program.
			panic(r)
		}
		no = api.Errno(fault)
	}()
	work()
	return api.OK
}
