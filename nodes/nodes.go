// Package nodes: what layers share that go through nodes, check them, or put them behind one another.
package nodes

import "marginalia/api"

// Walk through nodes, each ahead of what is in it, as long as visit goes on: it is told the list that a node stands in, the place there, and the nodes around it. Answered is whether it went on to the end.
func Walk(l []api.Node, visit func(beside []api.Node, at int, around []api.Node) bool) bool {
	return walk(l, nil, visit)
}

func walk(l, around []api.Node, visit func(beside []api.Node, at int, around []api.Node) bool) bool {
	for i, n := range l {
		if !visit(l, i, around) || !walk(n.Kids, append(around, n), visit) {
			return false
		}
	}
	return true
}

// Check how many nodes there are and how deep they stand, then each of them, as check says: what is wrong first.
func Check(l []api.Node, check func(beside []api.Node, at int, around []api.Node) api.Errno) api.Errno {
	if !fits(l) {
		return api.ErrMany
	}
	found := api.OK
	Walk(l, func(beside []api.Node, at int, around []api.Node) bool {
		found = check(beside, at, around)
		return found == api.OK
	})
	return found
}

// fits: are there no more nodes than may be, and is none too deep? It ends at the first one too many, and so of a list too that stands in itself.
func fits(l []api.Node) bool {
	count := 0
	return Walk(l, func(beside []api.Node, at int, around []api.Node) bool {
		count++
		isText := beside[at].Name == "" // MaxDepth is of elements
		return count <= api.MaxText && (isText || len(around) < api.MaxDepth)
	})
}

// CheckText that stands in a list.
func CheckText(beside []api.Node, at int) api.Errno {
	n := beside[at]
	if n.Text == "" || len(n.Attrs) > 0 || len(n.Kids) > 0 {
		return api.ErrForm
	}
	if at > 0 && beside[at-1].Name == "" {
		return api.ErrState
	}
	return api.OK
}

// CheckAttrs of an element or a tag, whose names are what isName says.
func CheckAttrs(l []api.Attr, isName func(s string) bool) api.Errno {
	met := map[string]struct{}{}
	for _, a := range l {
		if !isName(a.Name) {
			return api.ErrForm
		}
		if _, twice := met[a.Name]; twice {
			return api.ErrTwice
		}
		met[a.Name] = struct{}{}
	}
	return api.OK
}
