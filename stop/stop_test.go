package stop

import (
	"testing"

	"marginalia/api"
)

func TestCaught(t *testing.T) {
	done := false
	if e := Caught(func() { done = true }); e != api.OK || !done {
		t.Errorf("what goes on: %d, done: %v", e, done)
	}
	for e := api.ErrForm; e <= api.ErrKind; e++ {
		behind := false
		got := Caught(func() {
			With(e)
			behind = true
		})
		if got != e || behind {
			t.Errorf("gave up with %d: %d, went on: %v", e, got, behind)
		}
	}
}

func TestCaughtInCaught(t *testing.T) {
	inner := api.OK
	outer := Caught(func() {
		inner = Caught(func() { With(api.ErrTwice) })
		With(api.ErrNone)
	})
	if inner != api.ErrTwice || outer != api.ErrNone {
		t.Errorf("inner %d, outer %d", inner, outer)
	}
}

func TestMust(t *testing.T) {
	answer := func(e api.Errno) (string, api.Errno) { return "a", e }
	got := ""
	if e := Caught(func() { got = Must(answer(api.OK)) }); got != "a" || e != api.OK {
		t.Errorf("%q, %d", got, e)
	}
	got = "was"
	if e := Caught(func() { got = Must(answer(api.ErrRange)) }); got != "was" || e != api.ErrRange {
		t.Errorf("%q, %d", got, e)
	}
}

func TestWhatIsPanickedIsAnError(t *testing.T) {
	defer func() {
		if e, ok := recover().(error); !ok || e.Error() != "gave up with error 6" {
			t.Errorf("panicked with %v", e)
		}
	}()
	With(api.ErrTwice)
}

func TestCaughtKeepsOtherPanics(t *testing.T) {
	defer func() {
		if v := recover(); v != "other" {
			t.Errorf("recovered %v", v)
		}
	}()
	Caught(func() { panic("other") })
	t.Error("the panic is lost")
}
