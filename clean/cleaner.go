package clean

import (
	"marginalia/api"
	"marginalia/nodes"
	"marginalia/stop"
	"marginalia/url"
)

// cleaner of nodes whose links are told in the light of a base.
type cleaner struct{ base string }

func (c cleaner) cleaned(l []api.Node) []api.Node {
	var out nodes.List
	c.put(&out, l)
	return out.All()
}

// put what is left of nodes behind others.
func (c cleaner) put(out *nodes.List, l []api.Node) {
	for _, n := range l {
		switch {
		case n.Name == "":
			out.Put(n)
		case goes(n.Name):
		case !isAllowed(n.Name):
			c.put(out, n.Kids)
		default:
			stop.Caught(func() { out.Put(c.element(n)) })
		}
	}
}

// element that is allowed; gives up if what is left of it can't stand.
func (c cleaner) element(n api.Node) api.Node {
	kept := api.Node{Name: n.Name}
	for _, a := range n.Attrs {
		stop.Caught(func() { kept.Attrs = append(kept.Attrs, c.attr(n.Name, a)) })
	}
	mustStand(kept)
	kept.Kids = c.cleaned(n.Kids)
	return kept
}

// attr of an element; gives up if it can't stand there.
func (c cleaner) attr(element string, a api.Attr) api.Attr {
	if isLink(a.Name) {
		a.Value = c.link(a.Value)
	}
	attrMustStand(element, a)
	return a
}

// link in the light of the base, or as it is, if there is no telling.
func (c cleaner) link(s string) string {
	told, e := url.Resolve(c.base, s)
	if e != api.OK {
		return s
	}
	return told
}
