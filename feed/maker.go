package feed

import (
	"slices"

	"marginalia/api"
	"marginalia/clean"
	"marginalia/date"
	"marginalia/url"
)

// maker of entries, in the light of a base.
type maker struct{ base string }

// entries that are made of those elements in n that count. What is left out is as if it were not there: it takes no place and no id.
func entries(n api.Node, counts func(n api.Node) bool, made func(n api.Node) (api.Entry, api.Errno)) []api.Entry {
	var l []api.Entry
	for _, kid := range n.Kids {
		if len(l) == api.MaxEntries {
			break
		}
		if !counts(kid) {
			continue
		}
		x, e := made(kid)
		twice := slices.ContainsFunc(l, func(ahead api.Entry) bool { return ahead.Id == x.Id })
		if e == api.OK && !twice {
			l = append(l, x)
		}
	}
	return l
}

// item of an rss.
func (m maker) item(n api.Node) (api.Entry, api.Errno) {
	x := api.Entry{Id: wordsOf(n, "guid"), Title: wordsOf(n, "title"), Link: wordsOf(n, "link")}
	x.At, _ = date.Mail(wordsOf(n, "pubDate"))
	return m.whole(x, wordsOf(n, "description"))
}

// entry of a feed.
func (m maker) entry(n api.Node) (api.Entry, api.Errno) {
	x := api.Entry{Id: wordsOf(n, "id"), Title: wordsOf(n, "title"), Link: mainLink(n)}
	x.At, _ = date.Web(wordsOf(n, "updated"))
	says, has := child(n, "content")
	if !has {
		says, _ = child(n, "summary")
	}
	return m.whole(x, words(says))
}

// whole entry, of what an element tells; an error if it is to be left out.
func (m maker) whole(x api.Entry, says string) (api.Entry, api.Errno) {
	x.Link = m.link(x.Link)
	if x.Id == "" {
		x.Id = x.Link
	}
	html, e := clean.Html(m.base, says)
	if e != api.OK {
		return api.Entry{}, e
	}
	x.Html = html
	return x, Check(x)
}

// link in the light of the base, or as it is, if there is no telling; empty, if it may not be followed.
func (m maker) link(s string) string {
	if told, e := url.Resolve(m.base, s); e == api.OK {
		s = told
	}
	if !isSafe(s) {
		return ""
	}
	return s
}
