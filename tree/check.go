package tree

import (
	"marginalia/api"
	"marginalia/token"
)

// walk through nodes, each ahead of what is in it, as long as visit goes on: it is told the list that a node stands in, the place there, and the nodes around it.
func walk(l, around []api.Node, visit func(beside []api.Node, at int, around []api.Node) bool) bool {
	for i, n := range l {
		if !visit(l, i, around) || !walk(n.Kids, append(around, n), visit) {
			return false
		}
	}
	return true
}

// fits: are there no more nodes than may be, and is none too deep? It ends at the first one too many, and so of a list too that stands in itself.
func fits(l []api.Node) bool {
	count := 0
	return walk(l, nil, func(beside []api.Node, at int, around []api.Node) bool {
		count++
		isText := beside[at].Name == "" // MaxDepth is of elements
		return count <= api.MaxText && (isText || len(around) < api.MaxDepth)
	})
}

func checkNode(beside []api.Node, at int, around []api.Node) api.Errno {
	n := beside[at]
	if n.Name == "" {
		return checkText(beside, at)
	}
	if isEmpty(n.Name) && len(n.Kids) > 0 {
		return api.ErrForm
	}
	tag := api.Token{Kind: api.TokenOpen, Name: n.Name, Attrs: n.Attrs, Text: n.Text}
	if e := token.Check([]api.Token{tag}); e != api.OK {
		return e
	}
	if closedBy(around, n.Name) < len(around) {
		return api.ErrState
	}
	return api.OK
}

func checkText(beside []api.Node, at int) api.Errno {
	n := beside[at]
	if n.Text == "" || len(n.Attrs) > 0 || len(n.Kids) > 0 {
		return api.ErrForm
	}
	if at > 0 && beside[at-1].Name == "" {
		return api.ErrState
	}
	return api.OK
}
