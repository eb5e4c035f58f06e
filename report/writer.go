package report

import (
	"strings"

	"marginalia/api"
	"marginalia/date"
	"marginalia/escape"
	"marginalia/find"
)

// writer of markup: the text so far, and what comes behind it. Entries that come to it were checked: so none of their texts is too long, and no time is one that can't be told.
type writer struct{ strings.Builder }

// write texts as they are, one behind the other.
func (w *writer) write(texts ...string) {
	for _, s := range texts {
		w.WriteString(s)
	}
}

func (w *writer) line(x api.Entry) {
	w.write("<li>")
	w.title(x)
	w.time(x.At)
	w.write("<p>", put(words(x.Html)), "</p></li>")
}

// title of an entry, which leads where its link does, if it has one.
func (w *writer) title(x api.Entry) {
	if x.Link == "" {
		w.write(put(x.Title))
		return
	}
	w.write(`<a href="`, put(x.Link), `">`, put(x.Title), "</a>")
}

// time of an entry, if it is told.
func (w *writer) time(at int) {
	if at == 0 {
		return
	}
	told, _ := date.Print(at)
	w.write(" ", told)
}

func words(html string) string {
	said, _ := find.Words(html)
	return said
}

func put(s string) string {
	signs, _ := escape.Put(s)
	return signs
}
