// Package stop: what can't go on gives up by a panic of an error, and whoever began it is told which one.
package stop

import (
	"strconv"

	"marginalia/api"
)

// wrong is the error that is given up with; a type of its own, so that no other panic is taken for it.
type wrong struct{ errno api.Errno }

func (w wrong) Error() string { return "gave up with error " + strconv.Itoa(int(w.errno)) }

// With an error, what is being done gives up: the innermost Caught answers that.
func With(e api.Errno) { panic(wrong{e}) }

// Must have an answer: gives up with the error that came instead.
func Must[T any](answer T, e api.Errno) T {
	if e != api.OK {
		With(e)
	}
	return answer
}

// Caught is the error that do gave up with, or OK.
func Caught(do func()) (e api.Errno) {
	defer func() {
		v := recover()
		if v == nil {
			return
		}
		w, ok := v.(wrong)
		if !ok {
			panic(v)
		}
		e = w.errno
	}()
	do()
	return api.OK
}
