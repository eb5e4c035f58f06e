package clean

import (
	"slices"

	"marginalia/api"
	"marginalia/stop"
	"marginalia/url"
)

// goes: does an element of this name go, with what is in it?
func goes(name string) bool { return name == "script" || name == "style" || name == "template" }

func isAllowed(name string) bool {
	switch name {
	case "a", "b", "i", "em", "strong", "p", "br", "hr", "ul", "ol", "li", "blockquote", "code", "img":
		return true
	}
	return false
}

func isAllowedAttr(element, name string) bool {
	switch element {
	case "a":
		return name == "href" || name == "title"
	case "img":
		return name == "src" || name == "alt"
	}
	return false
}

func isLink(attr string) bool { return attr == "href" || attr == "src" }

// mustStand: gives up if a node can't stand in a clean tree, whatever is in it.
func mustStand(n api.Node) {
	if n.Name == "" {
		return
	}
	if !isAllowed(n.Name) {
		stop.With(api.ErrKind)
	}
	for _, a := range n.Attrs {
		attrMustStand(n.Name, a)
	}
	hasSrc := slices.ContainsFunc(n.Attrs, func(a api.Attr) bool { return a.Name == "src" })
	if n.Name == "img" && !hasSrc {
		stop.With(api.ErrNone)
	}
}

// attrMustStand: gives up if an attribute can't stand at a clean element of that name.
func attrMustStand(element string, a api.Attr) {
	if !isAllowedAttr(element, a.Name) {
		stop.With(api.ErrKind)
	}
	if isLink(a.Name) && !stop.Must(url.Safe(a.Value)) {
		stop.With(api.ErrState)
	}
}
