package desk

import (
	"marginalia/api"
	"marginalia/feed"
	"marginalia/shelf"
)

// doer of acts that were checked: the shelf as they left it so far, which is right. An act that has an error leaves it as it was.
type doer struct{ api.Shelf }

// do an act: how many entries are other, new or gone.
func (d *doer) do(a api.Act) (int, api.Errno) {
	switch a.Kind {
	case api.ActFeed:
		return d.take(a.Base, a.Text)
	case api.ActDrop:
		return d.leave(shelf.Drop(d.Shelf))
	}
	marked, e := shelf.Mark(d.Shelf, a.Text, a.Kind == api.ActRead)
	return d.leave(marked, 1, e)
}

// take in what a feed tells.
func (d *doer) take(base, text string) (int, api.Errno) {
	l, e := feed.Read(base, text)
	if e != api.OK {
		return 0, e
	}
	return d.leave(shelf.Put(d.Shelf, l))
}

// leave what a call made of the shelf in its place, unless that has an error: so many are other.
func (d *doer) leave(made api.Shelf, others int, e api.Errno) (int, api.Errno) {
	if e != api.OK {
		return 0, e
	}
	d.Entries, d.Read = made.Entries, made.Read
	return others, api.OK
}
