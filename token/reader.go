package token

import (
	"marginalia/api"
	"marginalia/escape"
	"marginalia/scan"
)

// reader of markup.
type reader struct {
	in  *scan.Text
	raw []byte // text that isn't taken yet: more of it may come behind a comment
	out []api.Token
}

// piece: a tag, a comment, or text. Puts nothing if it gives up.
func (r *reader) piece() {
	switch {
	case r.tagBegins("<"):
		r.openTag()
	case r.tagBegins("</"):
		r.closeTag()
	case r.in.Begins("<!--"):
		r.in.PassTo("<!") // no more than that: these two - may be those of the end
		r.in.PassTo("-->")
	case r.in.Begins("<!"), r.in.Begins("<?"), r.in.Begins("</"):
		r.in.PassTo(">")
	default:
		r.raw = append(r.raw, r.in.One())
		r.raw = append(r.raw, r.in.Pass(func(c byte) bool { return c != '<' })...)
	}
}

// tagBegins: is mark here, and a letter behind it?
func (r *reader) tagBegins(mark string) bool {
	return r.in.Begins(mark) && r.in.Ahead(len(mark), scan.Letter)
}

func (r *reader) openTag() {
	name := r.tagName("<")
	attrs := r.attrs()
	r.in.One()
	if isName(name) {
		r.put(api.Token{Kind: api.TokenOpen, Name: name, Attrs: attrs})
	}
}

func (r *reader) closeTag() {
	name := r.tagName("</")
	r.in.PassTo(">")
	if isName(name) {
		r.put(api.Token{Kind: api.TokenClose, Name: name})
	}
}

// tagName that stands behind mark.
func (r *reader) tagName(mark string) string {
	r.in.PassTo(mark)
	return scan.Lower(r.in.Pass(func(c byte) bool { return !isWhite(c) && c != '/' && c != '>' }))
}

// attrs up to the > of their tag.
func (r *reader) attrs() []api.Attr {
	var l []api.Attr
	met := map[string]struct{}{}
	for {
		r.in.Pass(func(c byte) bool { return isWhite(c) || c == '/' })
		if r.in.Peek() == '>' {
			return l
		}
		a := r.attr()
		if _, twice := met[a.Name]; twice || !isName(a.Name) {
			continue
		}
		met[a.Name] = struct{}{}
		l = append(l, a)
	}
}

func (r *reader) attr() api.Attr {
	first := r.in.One() // whatever it is: a = too
	name := string([]byte{first}) + r.in.Pass(func(c byte) bool {
		return !isWhite(c) && c != '/' && c != '>' && c != '='
	})
	a := api.Attr{Name: scan.Lower(name)}
	r.in.Pass(isWhite)
	if r.in.Peek() == '=' {
		r.in.One()
		r.in.Pass(isWhite)
		a.Value = take(r.value())
	}
	return a
}

// value as it stands, without what quotes it.
func (r *reader) value() string {
	quote := r.in.Peek()
	if quote != '"' && quote != '\'' {
		return r.in.Pass(func(c byte) bool { return !isWhite(c) && c != '>' })
	}
	r.in.One()
	v := r.in.Pass(func(c byte) bool { return c != quote })
	r.in.One()
	return v
}

// put a tag, behind the text ahead of it.
func (r *reader) put(t api.Token) {
	r.endText()
	r.out = append(r.out, t)
}

func (r *reader) endText() {
	if len(r.raw) == 0 {
		return
	}
	r.out = append(r.out, api.Token{Kind: api.TokenText, Text: take(string(r.raw))})
	r.raw = r.raw[:0]
}

// take signs of a piece of what is read, which is never too long.
func take(s string) string {
	t, _ := escape.Take(s)
	return t
}

func isWhite(c byte) bool {
	switch c {
	case 9, 10, 12, 13, 32:
		return true
	}
	return false
}
