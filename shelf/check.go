package shelf

import (
	"cmp"

	"marginalia/api"
	"marginalia/feed"
)

// checkEntries of a shelf, each of them whole ahead of the next one.
func checkEntries(l []api.Entry) api.Errno {
	met := map[string]struct{}{}
	for i, x := range l {
		if e := feed.Check(x); e != api.OK {
			return e
		}
		if _, twice := met[x.Id]; twice {
			return api.ErrTwice
		}
		if i > 0 && order(l[i-1], x) > 0 {
			return api.ErrState
		}
		met[x.Id] = struct{}{}
	}
	return api.OK
}

// checkRead: ids that were read. They need not be those of entries: what was read may be gone.
func checkRead(l []string) api.Errno {
	for i, id := range l {
		switch {
		case id == "":
			return api.ErrForm
		case len(id) > api.MaxId:
			return api.ErrMany
		case i > 0 && id <= l[i-1]:
			return api.ErrState
		}
	}
	return api.OK
}

// checkComing: entries that are to be put, wherever they stand and however often.
func checkComing(l []api.Entry) api.Errno {
	if len(l) > api.MaxEntries {
		return api.ErrMany
	}
	for _, x := range l {
		if e := feed.Check(x); e != api.OK {
			return e
		}
	}
	return api.OK
}

// order of entries on a shelf: below 0, if x stands ahead of y.
func order(x, y api.Entry) int {
	return cmp.Or(cmp.Compare(y.At, x.At), cmp.Compare(x.Id, y.Id))
}
