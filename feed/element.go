package feed

import (
	"slices"
	"strings"

	"marginalia/api"
	"marginalia/nodes"
)

// whiteBytes are those of strict trees: not all that stand in markup.
const whiteBytes = "\t\n\r "

// first node in an element that is looked for; one that is empty, and false, if there is none.
func first(n api.Node, is func(n api.Node) bool) (api.Node, bool) {
	i := slices.IndexFunc(n.Kids, is)
	if i < 0 {
		return api.Node{}, false
	}
	return n.Kids[i], true
}

func child(n api.Node, title string) (api.Node, bool) {
	return first(n, func(kid api.Node) bool { return kid.Name == title })
}

// words of an element.
func words(n api.Node) string {
	var out strings.Builder
	nodes.Walk(n.Kids, func(beside []api.Node, at int, around []api.Node) bool {
		out.WriteString(beside[at].Text)
		return true
	})
	return strings.Trim(out.String(), whiteBytes)
}

// wordsOf a child; empty, if there is none.
func wordsOf(n api.Node, title string) string {
	kid, _ := child(n, title)
	return words(kid)
}

// mainLink of an entry, as it stands there: that of what it is of, not of what else it names.
func mainLink(n api.Node) string {
	link, _ := first(n, func(kid api.Node) bool {
		rel, has := attr(kid, "rel")
		return kid.Name == "link" && (!has || rel == "alternate")
	})
	href, _ := attr(link, "href")
	return href
}

// attr of an element: its value, and whether it is there.
func attr(n api.Node, title string) (string, bool) {
	for _, a := range n.Attrs {
		if a.Name == title {
			return a.Value, true
		}
	}
	return "", false
}
