// Package escape: signs that are told: see doc/01-escape.md.
package escape

import (
	"strings"
	"unicode/utf8"

	"marginalia/api"
	"marginalia/scan"
)

// Put signs.
func Put(s string) (string, api.Errno) {
	if len(s) > api.MaxText {
		return "", api.ErrMany
	}
	out := make([]byte, 0, len(s))
	for i := 0; i < len(s); i++ {
		out = putByte(out, s[i])
	}
	return string(out), api.OK
}

// Take signs.
func Take(s string) (string, api.Errno) {
	if len(s) > api.MaxText {
		return "", api.ErrMany
	}
	out, _ := taken(s)
	return out, api.OK
}

// Strict: take signs, all of which must be told.
func Strict(s string) (string, api.Errno) {
	if len(s) > api.MaxText {
		return "", api.ErrMany
	}
	out, right := taken(s)
	if !right {
		return "", api.ErrForm
	}
	return out, api.OK
}

func putByte(out []byte, c byte) []byte {
	switch c {
	case '&':
		return append(out, "&amp;"...)
	case '<':
		return append(out, "&lt;"...)
	case '>':
		return append(out, "&gt;"...)
	case '"':
		return append(out, "&quot;"...)
	}
	return append(out, c)
}

// taken is s with signs for what tells them, and whether Strict may answer it.
func taken(s string) (text string, right bool) {
	in := scan.New(s)
	out := make([]byte, 0, len(s))
	right = true
	for !in.Done() {
		if in.Peek() == '&' {
			var ok bool
			out, ok = takeSign(in, out)
			right = right && ok
		}
		out = append(out, in.Pass(func(c byte) bool { return c != '&' })...)
	}
	return string(out), right
}

// takeSign at a &, put behind out: the sign that it tells, or the & alone; false for what Strict has as an error.
func takeSign(in *scan.Text, out []byte) ([]byte, bool) {
	code := 0
	if !in.Try(func() { code = sign(in) }) {
		return append(out, in.One()), false
	}
	if !stands(code) {
		return utf8.AppendRune(out, utf8.RuneError), false
	}
	return utf8.AppendRune(out, rune(code)), true
}

// sign that begins with a &: its code point. Gives up if it tells nothing.
func sign(in *scan.Text) int {
	in.One()
	// A further & ends what is looked through, so that no byte is looked at for each & ahead of it.
	name := in.Pass(func(c byte) bool { return c != ';' && c != '&' })
	if in.One() != ';' {
		scan.GiveUp()
	}
	code, ok := told(name)
	if !ok {
		scan.GiveUp()
	}
	return code
}

// told is the code point that stands between & and ; as name.
func told(name string) (int, bool) {
	switch name {
	case "amp":
		return '&', true
	case "lt":
		return '<', true
	case "gt":
		return '>', true
	case "quot":
		return '"', true
	case "apos":
		return '\'', true
	}
	if strings.HasPrefix(name, "#x") {
		return number(name[2:], 16, 6)
	}
	if strings.HasPrefix(name, "#") {
		return number(name[1:], 10, 7)
	}
	return 0, false
}

// number of one digit or more, at most so many, by a base.
func number(digits string, base, most int) (int, bool) {
	if len(digits) < 1 || len(digits) > most {
		return 0, false
	}
	n := 0
	for i := 0; i < len(digits); i++ {
		d := digit(digits[i])
		if d >= base {
			return 0, false
		}
		n = n*base + d
	}
	return n, true
}

// digit that a byte tells, up to 15; of all else 16, which is none by any base.
func digit(c byte) int {
	switch {
	case scan.Digit(c):
		return int(c - '0')
	case c >= 'a' && c <= 'f':
		return int(c-'a') + 10
	case c >= 'A' && c <= 'F':
		return int(c-'A') + 10
	}
	return 16
}

// stands: may a code point stand as it is?
func stands(code int) bool {
	surrogate := code >= 0xD800 && code <= 0xDFFF
	return code > 0 && code <= utf8.MaxRune && !surrogate
}
