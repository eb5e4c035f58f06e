package tree

import "marginalia/api"

// builder of a tree. What is open stands in one another, the innermost one last; the first one has no name and is never closed: in it stands what stands in none.
type builder struct {
	open []api.Node
	text []byte // in the innermost one, behind its kids: more of it may come
}

func (b *builder) openTag(t api.Token) {
	b.closeFrom(closedBy(b.open, t.Name))
	if len(b.open) > api.MaxDepth {
		return
	}
	b.endText()
	n := api.Node{Name: t.Name, Attrs: copied(t.Attrs)}
	if isEmpty(t.Name) {
		b.put(n)
		return
	}
	b.open = append(b.open, n)
}

func (b *builder) closeTag(name string) {
	b.closeFrom(innermost(b.open, func(s string) bool { return s == name }, func(string) bool { return false }))
}

// closeFrom a place on: that open element and all within it.
func (b *builder) closeFrom(from int) {
	for last := len(b.open) - 1; last >= from; last-- {
		b.endText()
		n := b.open[last]
		b.open = b.open[:last]
		b.put(n)
	}
}

// end: all are closed, and what stands in none is answered.
func (b *builder) end() []api.Node {
	b.closeFrom(1)
	b.endText()
	return b.open[0].Kids
}

func (b *builder) endText() {
	if len(b.text) > 0 {
		b.put(api.Node{Text: string(b.text)})
		b.text = b.text[:0]
	}
}

// put a node into the innermost open one.
func (b *builder) put(n api.Node) {
	in := &b.open[len(b.open)-1]
	in.Kids = append(in.Kids, n)
}
