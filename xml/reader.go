package xml

import (
	"slices"

	"marginalia/api"
	"marginalia/escape"
	"marginalia/nodes"
	"marginalia/scan"
	"marginalia/stop"
)

// reader of a document. What can't stand where it is read gives up.
type reader struct{ in *scan.Text }

func (r *reader) document() api.Node {
	r.misc()
	n := r.element(1)
	r.misc()
	if !r.in.Done() {
		stop.With(api.ErrForm)
	}
	return n
}

func (r *reader) misc() {
	for r.white() || r.remark() {
	}
}

// remark: is a comment here, or what stands between <? and ?>? It is passed.
func (r *reader) remark() bool {
	switch {
	case r.in.Passed("<!--"):
		r.passTo("-->")
	case r.in.Passed("<?"):
		r.passTo("?>")
	default:
		return false
	}
	return true
}

func (r *reader) element(depth int) api.Node {
	r.must("<")
	n := api.Node{Name: r.title()}
	if depth > api.MaxDepth {
		stop.With(api.ErrMany)
	}
	n.Attrs = r.attrs()
	if r.in.Passed("/>") {
		return n
	}
	r.must(">")
	n.Kids = r.kids(depth)
	r.end(n.Name)
	return n
}

func (r *reader) title() string {
	s := r.in.Pass(inTitle)
	if !isTitle(s) {
		stop.With(api.ErrForm)
	}
	return s
}

// attrs, and white bytes behind them.
func (r *reader) attrs() []api.Attr {
	var l []api.Attr
	for r.white() && r.in.Ahead(0, beginsTitle) {
		a := r.attr()
		if slices.ContainsFunc(l, func(ahead api.Attr) bool { return ahead.Name == a.Name }) {
			stop.With(api.ErrTwice)
		}
		l = append(l, a)
	}
	return l
}

func (r *reader) attr() api.Attr {
	name := r.title()
	r.white()
	r.must("=")
	r.white()
	return api.Attr{Name: name, Value: r.value()}
}

func (r *reader) value() string {
	quote := `"`
	if !r.in.Passed(quote) {
		quote = "'"
		r.must(quote)
	}
	raw := r.in.Pass(func(c byte) bool { return c != quote[0] && c != '<' })
	r.must(quote)
	return stop.Must(escape.Strict(raw))
}

// kids of an element that stands so deep, up to its end.
func (r *reader) kids(depth int) []api.Node {
	var l nodes.List
	for !r.in.Begins("</") {
		switch {
		case r.in.Done():
			stop.With(api.ErrForm)
		case r.remark():
		case r.in.Passed("<![CDATA["):
			l.Put(api.Node{Text: r.passTo("]]>")})
		case r.in.Begins("<"):
			l.Put(r.element(depth + 1))
		default:
			l.Put(api.Node{Text: r.text()})
		}
	}
	return l.All()
}

func (r *reader) text() string {
	raw := r.in.Pass(func(c byte) bool { return c != '<' })
	return stop.Must(escape.Strict(raw))
}

// end of an element of that title. Another title is told ahead of what is wrong behind it: it comes first.
func (r *reader) end(title string) {
	r.must("</")
	if r.title() != title {
		stop.With(api.ErrState)
	}
	r.white()
	r.must(">")
}

// white bytes are passed: is there one?
func (r *reader) white() bool { return r.in.Pass(isWhite) != "" }

// must: a mark is passed, which must stand here.
func (r *reader) must(mark string) {
	if !r.in.Passed(mark) {
		stop.With(api.ErrForm)
	}
}

// passTo the next mark, and that: what is ahead of it. There must be one.
func (r *reader) passTo(mark string) string {
	var s string
	if !r.in.Try(func() { s = r.in.PassTo(mark) }) {
		stop.With(api.ErrForm)
	}
	return s
}
