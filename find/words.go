package find

import (
	"strings"

	"marginalia/api"
	"marginalia/scan"
)

// whiteBytes are those of markup.
const whiteBytes = "\t\n\f\r "

// has an entry that was checked a word that was checked?
func has(x api.Entry, word string) bool {
	said, _ := Words(x.Html) // never too long: it was checked
	return stands(word, x.Title) || stands(word, said)
}

// stands: is a word somewhere in a text, letters small or not?
func stands(word, text string) bool {
	return strings.Contains(scan.Lower(text), scan.Lower(word))
}

// words of a tree, a blank between them, however much white is there.
func words(l []api.Node) string {
	var out strings.Builder
	spell(l, &out, func(n api.Node) {
		if parts(n.Name) {
			out.WriteByte(' ')
		}
	})
	return strings.Join(strings.FieldsFunc(out.String(), isWhite), " ")
}

// spell the texts of nodes out, with a blank at both ends of each node that asks for one. (One that has nothing in it asks for a single one: two side by side say no more.)
func spell(l []api.Node, out *strings.Builder, blank func(n api.Node)) {
	for _, n := range l {
		blank(n)
		out.WriteString(n.Text)
		spell(n.Kids, out, blank)
		blank(n)
	}
}

// parts: do words end at the elements of this name? Else it marks them alone.
func parts(name string) bool {
	switch name {
	case "br", "hr", "img", "p", "li", "blockquote", "ul", "ol":
		return true
	}
	return false
}

func isWhite(c rune) bool { return strings.ContainsRune(whiteBytes, c) }
