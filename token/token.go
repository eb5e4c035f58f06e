// Package token: tokens of markup: see doc/02-token.md.
package token

import (
	"strings"

	"marginalia/api"
	"marginalia/escape"
	"marginalia/nodes"
	"marginalia/scan"
)

// maxName is how many bytes a NAME may have.
const maxName = 20

// Read a text.
func Read(s string) ([]api.Token, api.Errno) {
	if len(s) > api.MaxText {
		return nil, api.ErrMany
	}
	r := &reader{in: scan.New(s)}
	for !r.in.Done() {
		if !r.in.Try(r.piece) {
			r.raw = append(r.raw, r.in.Rest()...)
		}
	}
	r.endText()
	return r.out, api.OK
}

// Check tokens.
func Check(l []api.Token) api.Errno {
	if len(l) > api.MaxText {
		return api.ErrMany
	}
	for i, t := range l {
		if e := checkToken(t); e != api.OK {
			return e
		}
		if i > 0 && t.Kind == api.TokenText && l[i-1].Kind == api.TokenText {
			return api.ErrState
		}
	}
	return api.OK
}

// Print tokens.
func Print(l []api.Token) (string, api.Errno) {
	if e := Check(l); e != api.OK {
		return "", e
	}
	var out strings.Builder
	for _, t := range l {
		switch t.Kind {
		case api.TokenText:
			printText(&out, t.Text)
		case api.TokenOpen:
			printOpen(&out, t)
		default:
			out.WriteString("</" + t.Name + ">")
		}
	}
	return out.String(), api.OK
}

func checkToken(t api.Token) api.Errno {
	switch t.Kind {
	case api.TokenText:
		if t.Name != "" || len(t.Attrs) > 0 || t.Text == "" {
			return api.ErrForm
		}
		return api.OK
	case api.TokenOpen:
		if t.Text != "" || !isName(t.Name) {
			return api.ErrForm
		}
		return nodes.CheckAttrs(t.Attrs, isName)
	case api.TokenClose:
		if t.Text != "" || len(t.Attrs) > 0 || !isName(t.Name) {
			return api.ErrForm
		}
		return api.OK
	}
	return api.ErrKind
}

// isName: is s a NAME? Its letters are small ones throughout: else what is printed would not be read as it was.
func isName(s string) bool {
	if s == "" || len(s) > maxName || !scan.Small(s[0]) {
		return false
	}
	for i := 0; i < len(s); i++ {
		if !scan.Small(s[i]) && !scan.Digit(s[i]) && s[i] != '-' {
			return false
		}
	}
	return true
}

// printText in pieces that Put takes: a text of a token may be longer than one that is read.
func printText(out *strings.Builder, s string) {
	for len(s) > 0 {
		n := min(len(s), api.MaxText)
		piece, _ := escape.Put(s[:n])
		out.WriteString(piece)
		s = s[n:]
	}
}

func printOpen(out *strings.Builder, t api.Token) {
	out.WriteString("<" + t.Name)
	for _, a := range t.Attrs {
		out.WriteString(" " + a.Name + `="`)
		printText(out, a.Value)
		out.WriteString(`"`)
	}
	out.WriteString(">")
}
