package shelf

import (
	"fmt"
	"slices"
	"strings"
	"testing"

	"marginalia/api"
	"marginalia/samples"
)

// entries, each told by one sign that is its id, one digit that is its time, and its title.
func entries(s string) []api.Entry {
	var l []api.Entry
	for _, f := range strings.Fields(s) {
		l = append(l, api.Entry{Id: f[:1], At: int(f[1] - '0'), Title: f[2:]})
	}
	return l
}

// shelfOf entries, and behind a | ids that were read.
func shelfOf(s string) api.Shelf {
	there, read, _ := strings.Cut(s, "|")
	return api.Shelf{Entries: entries(there), Read: strings.Fields(read)}
}

// show a shelf, so that two that show the same are the same.
func show(s api.Shelf) string {
	var out strings.Builder
	for _, x := range s.Entries {
		fmt.Fprintf(&out, "{%q %q %q %d %q}", x.Id, x.Title, x.Link, x.At, x.Html)
	}
	fmt.Fprintf(&out, "%q", s.Read)
	return out.String()
}

// ids that rise.
func ids(n int) []string {
	var l []string
	for i := range n {
		l = append(l, fmt.Sprintf("r%02d", i))
	}
	return l
}

// full shelf of n entries: of times n, n-1, .. 1.
func full(n int) []api.Entry {
	var l []api.Entry
	for i := range n {
		l = append(l, api.Entry{Id: fmt.Sprintf("e%02d", i), At: n - i})
	}
	return l
}

// wrongEntries: of each error one or more that Check of an entry has it of.
func wrongEntries() map[api.Errno][]api.Entry {
	long := strings.Repeat("l", api.MaxText+1)
	return map[api.Errno][]api.Entry{
		api.ErrForm:  {{}, {At: 5, Title: "t"}, {At: -1, Html: "<p>"}},
		api.ErrMany:  {{Id: long[:api.MaxId+1]}, {Id: "i", Title: long}, {Id: "i", Html: long, At: -1}},
		api.ErrRange: {{Id: "i", At: -1}, {Id: "i", At: api.MaxAt + 1, Link: "x"}},
		api.ErrState: {{Id: "i", Html: "<p>"}, {Id: "i", Link: "javascript:x"}, {Id: "i", Html: "<script></script>"}},
	}
}

// testAll: what every call answers of a shelf that Check answers want of.
func testAll(t *testing.T, s api.Shelf, want api.Errno) {
	t.Helper()
	if e := Check(s); e != want {
		t.Errorf("Check of %.300s is %d; must be %d", show(s), e, want)
	}
	if want == api.OK {
		return
	}
	put, n, e := Put(s, entries("q9q"))
	drop, k, f := Drop(s)
	for _, id := range []string{"a", "q", ""} {
		mark, g := Mark(s, id, true)
		unmark, h := Mark(s, id, false)
		if show(mark)+show(unmark) != "[][]" || g != want || h != want {
			t.Errorf("Mark of %q in %.300s is %s, %d and %s, %d; must be %d", id, show(s), show(mark), g, show(unmark), h, want)
		}
	}
	left, j := Unread(s)
	if show(put)+show(drop) != "[][]" || len(left) != 0 || n != 0 || k != 0 || e != want || f != want || j != want {
		t.Errorf("of %.300s Put is %s, %d, %d, Drop %s, %d, %d, Unread %q, %d; must be %d", show(s), show(put), n, e, show(drop), k, f, left, j, want)
	}
}

func TestRightI1(t *testing.T) {
	for _, s := range []string{"", "a0", "a0 b0 c0", "a9 b8 c7", "c9 b8 a7", "a9 c9 b8 d8", "|a", "|a b c", "a1|a", "a1|b", "b2 a1|a b c", "|A B a", "|a aa ab b"} {
		testAll(t, shelfOf(s), api.OK)
	}
	testAll(t, api.Shelf{Entries: []api.Entry{}, Read: []string{}}, api.OK)
	testAll(t, api.Shelf{Entries: full(api.MaxShelf), Read: ids(api.MaxRead)}, api.OK)
	long := strings.Repeat("i", api.MaxId)
	testAll(t, api.Shelf{Entries: []api.Entry{{Id: long, At: api.MaxAt, Link: "http:x", Html: "<b>c</b>"}}, Read: []string{long}}, api.OK)
	for _, l := range [][2]string{{"a", "aa"}, {"Z", "a"}, {"z", "\x80"}, {"\x00", "\x01"}, {"a", "a\x00"}, {"9", "A"}, {"\xc3\xa9", "\xff"}, {"\xff", "\xff\x00"}} {
		testAll(t, api.Shelf{Entries: []api.Entry{{Id: l[0]}, {Id: l[1]}}, Read: l[:]}, api.OK)
		testAll(t, api.Shelf{Entries: []api.Entry{{Id: l[1]}, {Id: l[0]}}}, api.ErrState)
		testAll(t, api.Shelf{Read: []string{l[1], l[0]}}, api.ErrState)
		testAll(t, api.Shelf{Entries: []api.Entry{{Id: l[1], At: 2}, {Id: l[0], At: 1}}}, api.OK)
		testAll(t, api.Shelf{Entries: []api.Entry{{Id: l[0], At: 1}, {Id: l[1], At: 2}}}, api.ErrState)
	}
}

func TestTooManyI1P1(t *testing.T) {
	testAll(t, api.Shelf{Entries: full(api.MaxShelf + 1)}, api.ErrMany)
	testAll(t, api.Shelf{Read: ids(api.MaxRead + 1)}, api.ErrMany)
	testAll(t, api.Shelf{Entries: make([]api.Entry, api.MaxShelf+1)}, api.ErrMany)
	testAll(t, api.Shelf{Entries: make([]api.Entry, api.MaxShelf)}, api.ErrForm)
	testAll(t, api.Shelf{Read: make([]string, api.MaxRead+1)}, api.ErrMany)
	testAll(t, api.Shelf{Read: make([]string, api.MaxRead)}, api.ErrForm)
	testAll(t, api.Shelf{Entries: entries("a1 a1"), Read: ids(api.MaxRead + 1)}, api.ErrMany)
	testAll(t, api.Shelf{Entries: []api.Entry{{}}, Read: ids(api.MaxRead + 1)}, api.ErrMany)
}

func TestWrongI1(t *testing.T) {
	for want, l := range wrongEntries() {
		for _, x := range l {
			testAll(t, api.Shelf{Entries: []api.Entry{x}}, want)
			testAll(t, api.Shelf{Entries: append(entries("a9 b9"), x)}, want)
			testAll(t, api.Shelf{Entries: append([]api.Entry{x}, entries("a9 a9")...)}, want)
			testAll(t, api.Shelf{Entries: append(entries("a8"), x), Read: []string{"", "b", "a"}}, want)
			testAll(t, api.Shelf{Entries: append(entries("a8 a9"), x)}, api.ErrTwice)
			testAll(t, api.Shelf{Entries: append(entries("a8 b9"), x)}, api.ErrState)
			testAll(t, api.Shelf{Entries: []api.Entry{{Id: "i"}, x}}, want) // what is wrong of it itself comes ahead of its id and its place
		}
	}
	for _, s := range []string{"a1 a1", "a2 a1", "a1 a2", "c9 a5 b5 a4", "a5 b5 a5", "a5 b4 a9", "a1 a1|b a", "a1x a1y", "a2 a1 c9"} {
		testAll(t, shelfOf(s), api.ErrTwice)
	}
	for _, s := range []string{"a1 b2", "b1 a1", "c9 a1 b2", "a9 c5 b5", "a9 b8 c9", "b1 a1|b a", "b1 a1 a1", "a1 b2 a1", "|b a", "|a a", "|a b b", "|b c a", "|a b a", "a1|b a", "|aa a", "|a B"} {
		testAll(t, shelfOf(s), api.ErrState)
	}
	long := strings.Repeat("i", api.MaxId+1)
	for _, there := range []string{"", "a1", "b2 a1"} {
		l := entries(there)
		testAll(t, api.Shelf{Entries: l, Read: []string{""}}, api.ErrForm)
		testAll(t, api.Shelf{Entries: l, Read: []string{"a", ""}}, api.ErrForm)
		testAll(t, api.Shelf{Entries: l, Read: []string{"", long}}, api.ErrForm)
		testAll(t, api.Shelf{Entries: l, Read: []string{long}}, api.ErrMany)
		testAll(t, api.Shelf{Entries: l, Read: []string{"z", long}}, api.ErrMany)
		testAll(t, api.Shelf{Entries: l, Read: []string{long, ""}}, api.ErrMany)
		testAll(t, api.Shelf{Entries: l, Read: []string{"b", "a", ""}}, api.ErrState)
		testAll(t, api.Shelf{Entries: l, Read: []string{"a", "a", long}}, api.ErrState)
	}
}

// wrongAt: what I1 says of one entry, by those ahead of it.
func wrongAt(l []api.Entry, at int) api.Errno {
	x := l[at]
	if x.Id == "-" {
		return api.ErrState // which is what its Html is
	}
	for _, y := range l[:at] {
		if y.Id == x.Id {
			return api.ErrTwice
		}
	}
	for _, y := range l[:at] {
		if y.At < x.At || y.At == x.At && y.Id > x.Id {
			return api.ErrState
		}
	}
	return api.OK
}

// All short lists of entries, held against I1's words one by one.
func TestEntryByEntryI1P1(t *testing.T) {
	count := map[api.Errno]int{}
	samples.Each([]string{"a1 ", "a2 ", "b1 ", "b2 ", "c0 ", "c3 ", "-1 "}, 5, func(s string) {
		l, want := entries(s), api.OK
		for i := range l {
			if l[i].Id == "-" {
				l[i].Html = "<p>"
			}
		}
		for i := range l {
			if want == api.OK {
				want = wrongAt(l, i)
			}
		}
		count[want]++
		if e := Check(api.Shelf{Entries: l}); e != want {
			t.Fatalf("Check of %s is %d; must be %d", s, e, want)
		}
	})
	if len(count) != 3 || count[api.OK] < 20 {
		t.Errorf("of each error: %v", count)
	}
}

// testPut: of a shelf and entries that come the shelf then, which is right, and how many are other.
func testPut(t *testing.T, s api.Shelf, l []api.Entry, want api.Shelf, count int) {
	t.Helper()
	got, n, e := Put(s, l)
	if show(got) != show(want) || n != count || e != api.OK {
		t.Fatalf("of %s and %s: %s, %d, %d; must be %s, %d", show(s), show(api.Shelf{Entries: l}), show(got), n, e, show(want), count)
	}
	if e := Check(got); e != api.OK {
		t.Fatalf("of %s and %s: %s, of which Check is %d", show(s), show(api.Shelf{Entries: l}), show(got), e)
	}
}

func TestPutI2(t *testing.T) {
	for _, c := range []struct {
		s, l, want string
		count      int
	}{
		{"", "", "", 0},
		{"a1|a q", "", "a1|a q", 0},
		{"", "a1", "a1", 1},
		{"", "b5 a5 c9", "c9 a5 b5", 3},
		{"", "a1 b2 c3", "c3 b2 a1", 3},
		{"a5", "b5", "a5 b5", 1},
		{"b5", "a5", "a5 b5", 1},
		{"a5 c3", "b4", "a5 b4 c3", 1},
		{"a5 c3", "b9", "b9 a5 c3", 1},
		{"a5 c3", "b0", "a5 c3 b0", 1},
		{"a5x", "a4y", "a5x", 0}, // elder
		{"a5x", "a0y", "a5x", 0},
		{"a5x", "a5y", "a5y", 1}, // not elder
		{"a5x", "a6y", "a6y", 1},
		{"a5x", "a6x", "a6x", 1},
		{"a5x", "a5x", "a5x", 0}, // just so
		{"c9 a5 b4", "b7", "c9 b7 a5", 1},
		{"c9 a5 b4", "b5", "c9 a5 b5", 1},
		{"c9 b5 a4", "a5", "c9 a5 b5", 1},
		{"c9 b5 a4", "a9", "a9 c9 b5", 1},
		{"", "a1 a3 a2", "a3", 1},
		{"", "a3x a3y a3z", "a3z", 1},
		{"a2x", "a3y a2x", "a3y", 1},
		{"a2x", "a2y a2x", "a2x", 0}, // other for a while
		{"a2x", "a1y a2z a1w", "a2z", 1},
		{"c3 b2 a1", "a4 b4 c4", "a4 b4 c4", 3},
		{"c3 b2 a1", "a1 b2 c3", "c3 b2 a1", 0},
		{"c3 b2 a1", "a1 d0 b2 e9", "e9 c3 b2 a1 d0", 2},
		{"b2 a1|a", "a3 c1", "a3 b2 c1|a", 2}, // was read, and stays so
		{"|a b", "c1 a2", "a2 c1|a b", 2},
	} {
		testPut(t, shelfOf(c.s), entries(c.l), shelfOf(c.want), c.count)
	}
}

// Each field tells whether an entry is just so.
func TestJustSoI2(t *testing.T) {
	was := api.Entry{Id: "i", Title: "t", Link: "http:l", At: 5, Html: "h"}
	for _, change := range []func(x *api.Entry){
		func(x *api.Entry) { x.Id = "j" },
		func(x *api.Entry) { x.Title = "T" },
		func(x *api.Entry) { x.Link = "" },
		func(x *api.Entry) { x.At++ },
		func(x *api.Entry) { x.Html = "<b>h</b>" },
	} {
		x := was
		change(&x)
		want := api.Shelf{Entries: []api.Entry{x}}
		if x.Id != was.Id {
			want.Entries = []api.Entry{was, x}
		}
		testPut(t, api.Shelf{Entries: []api.Entry{was}}, []api.Entry{x}, want, 1)
		testPut(t, want, []api.Entry{x}, want, 0)
	}
}

func TestEldestGoI2(t *testing.T) {
	there := full(api.MaxShelf) // the last one is of time 1
	last := there[api.MaxShelf-1]
	s := api.Shelf{Entries: there, Read: []string{last.Id}}
	put := func(want []api.Entry, count int, l ...api.Entry) {
		t.Helper()
		testPut(t, s, l, api.Shelf{Entries: want, Read: s.Read}, count)
	}
	first := api.Entry{Id: "n", At: api.MaxAt}
	put(slices.Concat([]api.Entry{first}, there[:19]), 1, first)
	put(there, 0, api.Entry{Id: "n"})
	put(there, 0, api.Entry{Id: "f", At: 1}) // behind the last one, of its time
	put(slices.Concat(there[:19], []api.Entry{{Id: "d", At: 1}}), 1, api.Entry{Id: "d", At: 1})
	put(there, 0, api.Entry{Id: last.Id})
	put(slices.Concat(there[:19], []api.Entry{{Id: last.Id, At: 1, Title: "t"}}), 1, api.Entry{Id: last.Id, At: 1, Title: "t"})
	again := api.Entry{Id: last.Id, At: 2}
	put(slices.Concat([]api.Entry{first}, there[:19]), 1, last, first)
	put(slices.Concat([]api.Entry{first}, there[:19]), 1, first, last)
	put(slices.Concat([]api.Entry{first}, there[:19]), 1, first, again) // e18 is of that time too, and ahead
	again.At = 3
	put(slices.Concat([]api.Entry{first}, there[:18], []api.Entry{again}), 2, first, again)
	put(slices.Concat([]api.Entry{first}, there[:18], []api.Entry{again}), 2, again, first)
	var more []api.Entry
	for i := range api.MaxEntries {
		more = append(more, api.Entry{Id: fmt.Sprintf("n%02d", i), At: 100})
	}
	put(slices.Concat(more, there[:8]), api.MaxEntries, more...)
	s.Entries = there[:api.MaxShelf-1]
	put(slices.Concat(there[:19], []api.Entry{{Id: "n"}}), 1, api.Entry{Id: "n"})
	put(slices.Concat(there[:19], []api.Entry{{Id: "n"}}), 1, api.Entry{Id: "n"}, api.Entry{Id: "o"})
}

func TestPutErrorsI2P1(t *testing.T) {
	wrong := func(s api.Shelf, l []api.Entry, want api.Errno) {
		t.Helper()
		if x, n, e := Put(s, l); show(x) != "[]" || n != 0 || e != want {
			t.Errorf("of %s and %.300s: %s, %d, %d; must be %d", show(s), show(api.Shelf{Entries: l}), show(x), n, e, want)
		}
	}
	for _, s := range []api.Shelf{{}, shelfOf("a9 b5|a"), {Entries: full(api.MaxShelf), Read: ids(api.MaxRead)}} {
		for want, l := range wrongEntries() {
			for _, x := range l {
				wrong(s, []api.Entry{x}, want)
				wrong(s, append(entries("a9 b9"), x), want)
				wrong(s, append([]api.Entry{x}, entries("a9 b9")...), want)
				wrong(s, append(make([]api.Entry, api.MaxEntries), x), api.ErrMany)
				wrong(s, []api.Entry{x, {Id: "i", At: -1}, {}}, want)
				wrong(api.Shelf{Entries: entries("a1 a1")}, []api.Entry{x}, api.ErrTwice)
				wrong(api.Shelf{Read: []string{""}}, []api.Entry{x}, api.ErrForm)
			}
		}
		wrong(s, full(api.MaxEntries+1), api.ErrMany)
	}
	wrong(api.Shelf{Entries: entries("a1 b2")}, full(api.MaxEntries+1), api.ErrState)
	testPut(t, api.Shelf{}, full(api.MaxEntries), api.Shelf{Entries: full(api.MaxEntries)}, api.MaxEntries)
}

// putOnce: what Put must answer, by another way: of each id the newest one that came last, all of them sorted, the first of them.
func putOnce(s api.Shelf, l []api.Entry) (api.Shelf, int) {
	of := map[string]api.Entry{}
	for _, x := range append(slices.Clone(s.Entries), l...) {
		if old, has := of[x.Id]; !has || old.At <= x.At {
			of[x.Id] = x
		}
	}
	out := api.Shelf{Read: s.Read}
	for _, x := range of {
		out.Entries = append(out.Entries, x)
	}
	slices.SortFunc(out.Entries, func(x, y api.Entry) int {
		if x.At != y.At {
			return y.At - x.At
		}
		return strings.Compare(x.Id, y.Id)
	})
	out.Entries = out.Entries[:min(len(out.Entries), api.MaxShelf)]
	count := len(out.Entries)
	for _, x := range out.Entries {
		for _, y := range s.Entries {
			if x == y {
				count--
			}
		}
	}
	return out, count
}

func TestShortListsI2I3(t *testing.T) {
	for _, there := range []string{"", "a1x", "a2x b1x", "b3x a2x|b", "c9y a2x b2x"} {
		samples.Each([]string{"a1x ", "a2x ", "a2y ", "b1x ", "b2x ", "c9y "}, 5, func(l string) {
			want, count := putOnce(shelfOf(there), entries(l))
			testPut(t, shelfOf(there), entries(l), want, count)
		})
	}
}

// draw numbers; the same ones each time.
type draw uint64

func (d *draw) below(n int) int {
	*d = *d*6364136223846793005 + 1442695040888963407
	return int(uint64(*d) >> 33 % uint64(n))
}

func (d *draw) entries(n int) []api.Entry {
	var l []api.Entry
	for range n {
		l = append(l, api.Entry{Id: string(rune('a' + d.below(26))), At: d.below(40), Title: string(rune('x' + d.below(2)))})
	}
	return l
}

// However entries come, again and again, each id is there once, and what comes again changes nothing.
func TestAgainAndAgainI2I3P3(t *testing.T) {
	var d draw
	cut := 0
	for range 40 {
		s := api.Shelf{}
		for range 30 {
			l := d.entries(d.below(api.MaxEntries + 1))
			want, count := putOnce(s, l)
			testPut(t, s, l, want, count)
			testPut(t, want, want.Entries[:min(len(want.Entries), api.MaxEntries)], want, 0)
			if again, n, _ := Put(s, l); show(again) != show(want) || n != count {
				t.Fatalf("again it is %s, %d; was %s, %d", show(again), n, show(want), count)
			}
			if len(want.Entries) == api.MaxShelf {
				cut++
			}
			s = want
		}
	}
	if cut < 100 {
		t.Errorf("%d shelves are full", cut)
	}
}

// One list that comes a second time, each id in it once, changes nothing.
func TestTwiceI3(t *testing.T) {
	var d draw = 7
	for range 2000 {
		s, _, _ := Put(api.Shelf{}, d.entries(12))
		s, _, _ = Put(s, d.entries(12))
		var l []api.Entry
		for _, x := range d.entries(12) {
			if !slices.ContainsFunc(l, func(y api.Entry) bool { return x.Id == y.Id }) {
				l = append(l, x)
			}
		}
		once, _, _ := Put(s, l)
		testPut(t, once, l, once, 0)
	}
}

func TestMarkI2(t *testing.T) {
	for _, c := range []struct {
		s, id string
		read  bool
		want  string
	}{
		{"a1", "a", true, "a1|a"},
		{"a1", "a", false, "a1"},
		{"a1|a", "a", true, "a1|a"},
		{"a1|a", "a", false, "a1"},
		{"c3 b2 a1", "b", true, "c3 b2 a1|b"},
		{"c3 b2 a1|b", "a", true, "c3 b2 a1|a b"},
		{"c3 b2 a1|b", "c", true, "c3 b2 a1|b c"},
		{"c3 b2 a1|a c", "b", true, "c3 b2 a1|a b c"},
		{"c3 b2 a1|a b c", "b", false, "c3 b2 a1|a c"},
		{"c3 b2 a1|a b c", "a", false, "c3 b2 a1|b c"},
		{"c3 b2 a1|a b c", "c", false, "c3 b2 a1|a b"},
		{"b1|a bb", "b", true, "b1|a b bb"},
		{"b1|B ba", "b", true, "b1|B b ba"},
		{"b1|a c", "b", false, "b1|a c"},
	} {
		if x, e := Mark(shelfOf(c.s), c.id, c.read); show(x) != show(shelfOf(c.want)) || e != api.OK || Check(x) != api.OK {
			t.Errorf("%q of %s as %v: %s, %d; must be %s", c.id, c.s, c.read, show(x), e, c.want)
		}
	}
}

func TestMarkErrorsI2P1(t *testing.T) {
	wrong := func(s api.Shelf, id string, read bool, want api.Errno) {
		t.Helper()
		if x, e := Mark(s, id, read); show(x) != "[]" || e != want {
			t.Errorf("%q of %.300s as %v: %s, %d; must be %d", id, show(s), read, show(x), e, want)
		}
	}
	much := api.Shelf{Entries: append(entries("b9"), api.Entry{Id: "r05"}), Read: ids(api.MaxRead)}
	for _, read := range []bool{true, false} {
		for _, id := range []string{"", "b", "A", "aa", "a ", strings.Repeat("a", api.MaxId+1), "a\x00"} {
			wrong(api.Shelf{}, id, read, api.ErrNone)
			wrong(shelfOf("a1|b"), id, read, api.ErrNone) // b was read, and is gone
			wrong(api.Shelf{Entries: entries("a1"), Read: ids(api.MaxRead)}, id, read, api.ErrNone)
		}
	}
	wrong(much, "b", true, api.ErrMany)
	for _, c := range []struct {
		id   string
		read bool
		want []string
	}{
		{"b", false, much.Read},
		{"r05", true, much.Read},
		{"r05", false, slices.Concat(much.Read[:5], much.Read[6:])},
	} {
		if x, e := Mark(much, c.id, c.read); !slices.Equal(x.Read, c.want) || len(x.Entries) != 2 || e != api.OK {
			t.Errorf("%q as %v: %q, %d", c.id, c.read, x.Read, e)
		}
	}
	much.Read = much.Read[1:]
	if x, e := Mark(much, "b", true); !slices.Equal(x.Read, append([]string{"b"}, much.Read...)) || e != api.OK {
		t.Errorf("the last one that may be: %q, %d", x.Read, e)
	}
}

func TestDropAndUnreadI2(t *testing.T) {
	for _, c := range []struct{ s, left, unread string }{
		{"", "", ""},
		{"|a b", "|a b", ""},
		{"a1", "a1", "a"},
		{"a1|a", "|a", ""},
		{"a1|A aa b", "a1|A aa b", "a"},
		{"c9 a5 b5 d1", "c9 a5 b5 d1", "c a b d"},
		{"c9 a5 b5 d1|a", "c9 b5 d1|a", "c b d"},
		{"c9 a5 b5 d1|c d", "a5 b5|c d", "a b"},
		{"c9 a5 b5 d1|a b c", "d1|a b c", "d"},
		{"c9 a5 b5 d1|a b c d e", "|a b c d e", ""},
		{"c9x a5y|0 b c z", "a5y|0 b c z", "a"},
	} {
		s := shelfOf(c.s)
		want := shelfOf(c.left)
		count := len(s.Entries) - len(want.Entries)
		if x, n, e := Drop(s); show(x) != show(want) || n != count || e != api.OK || Check(x) != api.OK {
			t.Errorf("Drop of %s: %s, %d, %d; must be %s, %d", c.s, show(x), n, e, c.left, count)
		}
		if l, e := Unread(s); strings.Join(l, " ") != c.unread || e != api.OK {
			t.Errorf("Unread of %s: %q, %d; must be %s", c.s, l, e, c.unread)
		}
	}
	s := api.Shelf{Entries: full(api.MaxShelf)}
	for _, x := range s.Entries {
		s, _ = Mark(s, x.Id, true)
	}
	if x, n, e := Drop(s); len(x.Entries) != 0 || len(x.Read) != api.MaxShelf || n != api.MaxShelf || e != api.OK {
		t.Errorf("Drop of all that may be: %s, %d, %d", show(x), n, e)
	}
	if again, n, e := Put(api.Shelf{Read: []string{"a"}}, entries("a1 b0")); e != api.OK || n != 2 {
		t.Errorf("what was read and is gone comes again: %s, %d, %d", show(again), n, e)
	} else if l, _ := Unread(again); strings.Join(l, " ") != "b" {
		t.Errorf("it was read: %q", l)
	}
}

// spared: a copy of a shelf with spare room behind both lists, and a look at all of it.
func spared(s api.Shelf) (api.Shelf, func() string) {
	l := append(slices.Clone(s.Entries), entries("y1 z2 y3")...)
	r := append(slices.Clone(s.Read), "y", "z", "q")
	return api.Shelf{Entries: l[:len(s.Entries)], Read: r[:len(s.Read)]}, func() string { return show(api.Shelf{Entries: l, Read: r}) }
}

func spoil(s api.Shelf) {
	for i := range s.Entries[:cap(s.Entries)] {
		s.Entries[:cap(s.Entries)][i] = api.Entry{Id: "spoilt"}
	}
	for i := range s.Read[:cap(s.Read)] {
		s.Read[:cap(s.Read)][i] = "spoilt"
	}
}

func TestOnlyReadP2P3(t *testing.T) {
	calls := map[string]func(s api.Shelf) api.Shelf{
		"Put none":   func(s api.Shelf) api.Shelf { x, _, _ := Put(s, nil); return x },
		"Put new":    func(s api.Shelf) api.Shelf { x, _, _ := Put(s, entries("d7 e0 f9")); return x },
		"Put again":  func(s api.Shelf) api.Shelf { x, _, _ := Put(s, entries("a9x b6x c8")); return x },
		"Mark":       func(s api.Shelf) api.Shelf { x, _ := Mark(s, "b", true); return x },
		"Mark not":   func(s api.Shelf) api.Shelf { x, _ := Mark(s, "a", false); return x },
		"Mark stays": func(s api.Shelf) api.Shelf { x, _ := Mark(s, "a", true); return x },
		"Drop":       func(s api.Shelf) api.Shelf { x, _, _ := Drop(s); return x },
		"Unread":     func(s api.Shelf) api.Shelf { l, _ := Unread(s); return api.Shelf{Read: l} },
		"Check":      func(s api.Shelf) api.Shelf { Check(s); return api.Shelf{} },
	}
	for name, call := range calls {
		for _, there := range []string{"c9 a5 b5", "c9 a5 b5|a", "a9 b8 c7|a c", "b2 a1|a b"} {
			s, look := spared(shelfOf(there))
			was := look()
			answer := call(s)
			if look() != was {
				t.Errorf("%s of %s: handed in was %s, is %s", name, there, was, look())
			}
			told := show(answer)
			spoil(answer)
			if look() != was {
				t.Errorf("%s of %s: the answer shares memory with what was handed in", name, there)
			}
			answer = call(s)
			if show(answer) != told {
				t.Errorf("%s of %s: was %s, is %s", name, there, told, show(answer))
			}
			spoil(s)
			if show(answer) != told {
				t.Errorf("%s of %s: a later change of what was handed in is seen: %s", name, there, show(answer))
			}
		}
	}
}

func TestComingOnlyReadP2(t *testing.T) {
	l := entries("d7 a9 c1 e0 x9 y9")
	was := show(api.Shelf{Entries: l})
	x, _, _ := Put(shelfOf("c9 a5 b5"), l[:4])
	if show(api.Shelf{Entries: l}) != was {
		t.Errorf("handed in was %s, is %s", was, show(api.Shelf{Entries: l}))
	}
	told := show(x)
	spoil(api.Shelf{Entries: l})
	if show(x) != told {
		t.Errorf("a later change of what came is seen: %s", show(x))
	}
}
