package xml

import (
	"strings"

	"marginalia/api"
	"marginalia/token"
)

func printNode(out *strings.Builder, n api.Node) {
	if n.Name == "" {
		out.WriteString(put(n.Text))
		return
	}
	out.WriteString("<" + n.Name)
	for _, a := range n.Attrs {
		out.WriteString(" " + a.Name + `="` + put(a.Value) + `"`)
	}
	if len(n.Kids) == 0 {
		out.WriteString("/>")
		return
	}
	out.WriteString(">")
	for _, kid := range n.Kids {
		printNode(out, kid)
	}
	out.WriteString("</" + n.Name + ">")
}

// put signs, as a text of markup is printed: one that is printed may be longer than Put takes.
func put(s string) string {
	if s == "" {
		return ""
	}
	printed, _ := token.Print([]api.Token{{Kind: api.TokenText, Text: s}})
	return printed
}
