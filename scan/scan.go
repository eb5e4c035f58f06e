// Package scan: a text that is read byte by byte, from its beginning on. What needs more bytes than the text has gives up, and Try tells so.
package scan

import "strings"

// Text that is read, and the place where that is.
type Text struct {
	all string
	at  int
}

// noEnd is what reading gives up with; a type of its own, so that no other panic is taken for it.
type noEnd struct{}

// New text, read from its beginning on.
func New(s string) *Text { return &Text{all: s} }

// Done: is nothing left?
func (t *Text) Done() bool { return t.at >= len(t.all) }

// Begins what is left with s?
func (t *Text) Begins(s string) bool { return strings.HasPrefix(t.all[t.at:], s) }

// Ahead: is there a byte n bytes on, and does is say so of it?
func (t *Text) Ahead(n int, is func(c byte) bool) bool {
	return n < len(t.all)-t.at && is(t.all[t.at+n])
}

// Rest is passed, all that is left.
func (t *Text) Rest() string {
	rest := t.all[t.at:]
	t.at = len(t.all)
	return rest
}

// Peek at the next byte; gives up if there is none.
func (t *Text) Peek() byte {
	if t.Done() {
		GiveUp()
	}
	return t.all[t.at]
}

// One byte is passed; gives up if there is none.
func (t *Text) One() byte {
	c := t.Peek()
	t.at++
	return c
}

// Pass bytes as long as passes says so, or up to the end.
func (t *Text) Pass(passes func(c byte) bool) string {
	from := t.at
	for !t.Done() && passes(t.all[t.at]) {
		t.at++
	}
	return t.all[from:t.at]
}

// PassTo the first mark, and that: what is ahead of it. Gives up if there is none.
func (t *Text) PassTo(mark string) string {
	i := strings.Index(t.all[t.at:], mark)
	if i < 0 {
		GiveUp()
	}
	passed := t.all[t.at : t.at+i]
	t.at += i + len(mark)
	return passed
}

// Passed: is a mark here? It is passed.
func (t *Text) Passed(mark string) bool {
	here := t.Begins(mark)
	if here {
		t.at += len(mark)
	}
	return here
}

// Must pass a mark; gives up if it isn't here.
func (t *Text) Must(mark string) {
	if !t.Passed(mark) {
		GiveUp()
	}
}

// GiveUp what is being read: the innermost Try answers false.
func GiveUp() { panic(noEnd{}) }

// Try to read: false if that gave up, and then the place is what it was.
func (t *Text) Try(read func()) (done bool) {
	from := t.at
	defer func() {
		v := recover()
		if v == nil {
			return
		}
		if _, ok := v.(noEnd); !ok {
			panic(v)
		}
		t.at = from
	}()
	read()
	return true
}

// Letter: is a byte one, small or not?
func Letter(c byte) bool { return Small(c) || c >= 'A' && c <= 'Z' }

// Small: is a byte a small letter?
func Small(c byte) bool { return c >= 'a' && c <= 'z' }

// Digit: is a byte one?
func Digit(c byte) bool { return c >= '0' && c <= '9' }

// Lower is s in small letters. (Not strings.ToLower, which knows letters beyond these.)
func Lower(s string) string {
	out := []byte(s)
	for i, c := range out {
		if Letter(c) && !Small(c) {
			out[i] = c - 'A' + 'a'
		}
	}
	return string(out)
}
