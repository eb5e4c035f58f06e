package shelf

import (
	"slices"

	"marginalia/api"
)

// keeper of a shelf that is changed: a copy of the one that was handed in, which stays as it was.
type keeper struct{ api.Shelf }

// keep a shelf, if it is right.
func keep(s api.Shelf) (*keeper, api.Errno) {
	if e := Check(s); e != api.OK {
		return nil, e
	}
	k := &keeper{}
	k.Entries = append(k.Entries, s.Entries...)
	k.Read = append(k.Read, s.Read...)
	return k, api.OK
}

// place of the entry with an id; below 0, if there is none.
func (k *keeper) place(id string) int {
	return slices.IndexFunc(k.Entries, func(x api.Entry) bool { return x.Id == id })
}

// put an entry, unless a newer one of its id is there.
func (k *keeper) put(x api.Entry) {
	if i := k.place(x.Id); i >= 0 {
		if x.At < k.Entries[i].At {
			return
		}
		k.Entries = slices.Delete(k.Entries, i, i+1)
	}
	i, _ := slices.BinarySearchFunc(k.Entries, x, order)
	k.Entries = slices.Insert(k.Entries, i, x)
}

// cut off the eldest entries that are too many.
func (k *keeper) cut() {
	k.Entries = slices.Delete(k.Entries, min(len(k.Entries), api.MaxShelf), len(k.Entries))
}

// others: how many entries are not just so among those that were there.
func (k *keeper) others(were []api.Entry) int {
	count := 0
	for _, x := range k.Entries {
		if !slices.Contains(were, x) {
			count++
		}
	}
	return count
}

// mark an id as read, or as not read; as it is already, it stays.
func (k *keeper) mark(id string, read bool) {
	i, was := slices.BinarySearch(k.Read, id)
	switch {
	case read && !was:
		k.Read = slices.Insert(k.Read, i, id)
	case was && !read:
		k.Read = slices.Delete(k.Read, i, i+1)
	}
}

func (k *keeper) wasRead(x api.Entry) bool {
	_, was := slices.BinarySearch(k.Read, x.Id)
	return was
}
