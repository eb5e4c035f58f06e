package nodes

import "marginalia/api"

// List of nodes that come one behind the other, without two texts side by side.
type List struct {
	all  []api.Node
	text []byte // behind all of them: more of it may come
}

// Put nodes behind the others: texts that come side by side are one, and one that is empty is none.
func (l *List) Put(more ...api.Node) {
	for _, n := range more {
		if n.Name == "" {
			l.text = append(l.text, n.Text...)
			continue
		}
		l.endText()
		l.all = append(l.all, n)
	}
}

// All that were put.
func (l *List) All() []api.Node {
	l.endText()
	return l.all
}

func (l *List) endText() {
	if len(l.text) > 0 {
		l.all = append(l.all, api.Node{Text: string(l.text)})
		l.text = l.text[:0]
	}
}
