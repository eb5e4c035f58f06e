package tree

import (
	"marginalia/api"
	"marginalia/nodes"
	"marginalia/token"
)

func checkNode(beside []api.Node, at int, around []api.Node) api.Errno {
	n := beside[at]
	if n.Name == "" {
		return nodes.CheckText(beside, at)
	}
	if isEmpty(n.Name) && len(n.Kids) > 0 {
		return api.ErrForm
	}
	tag := api.Token{Kind: api.TokenOpen, Name: n.Name, Attrs: n.Attrs, Text: n.Text}
	if e := token.Check([]api.Token{tag}); e != api.OK {
		return e
	}
	if closedBy(around, n.Name) < len(around) {
		return api.ErrState
	}
	return api.OK
}
