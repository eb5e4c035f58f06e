package desk

import (
	"fmt"
	"maps"
	"slices"
	"strings"
	"testing"

	"marginalia/api"
	"marginalia/feed"
	"marginalia/samples"
	"marginalia/shelf"
)

// entries, each told by one sign that is its id, one digit that is its time, and its title.
func entries(s string) []api.Entry {
	var l []api.Entry
	for _, f := range strings.Fields(s) {
		l = append(l, api.Entry{Id: f[:1], At: int(f[1] - '0'), Title: f[2:]})
	}
	return l
}

// shelfOf entries, and behind a | ids that were read.
func shelfOf(s string) api.Shelf {
	there, read, _ := strings.Cut(s, "|")
	return api.Shelf{Entries: entries(there), Read: strings.Fields(read)}
}

// show a shelf, so that two that show the same are the same.
func show(s api.Shelf) string {
	var out strings.Builder
	for _, x := range s.Entries {
		fmt.Fprintf(&out, "{%q %q %q %d %q}", x.Id, x.Title, x.Link, x.At, x.Html)
	}
	fmt.Fprintf(&out, "%q", s.Read)
	return out.String()
}

// rss that tells these entries.
func rss(s string) string {
	var out strings.Builder
	for _, x := range entries(s) {
		fmt.Fprintf(&out, "<item><guid>%s</guid><pubDate>1 Jan 1970 00:00:0%d GMT</pubDate><title>%s</title></item>", x.Id, x.At, x.Title)
	}
	return "<rss><channel>" + out.String() + "</channel></rss>"
}

// act that is told by a word: drop, + and an id that was read, - and one that was not, a feed as it stands, or entries of a feed.
func act(s string) api.Act {
	switch {
	case s == "drop":
		return api.Act{Kind: api.ActDrop}
	case strings.HasPrefix(s, "+"):
		return api.Act{Kind: api.ActRead, Text: s[1:]}
	case strings.HasPrefix(s, "-"):
		return api.Act{Kind: api.ActUnread, Text: s[1:]}
	case strings.HasPrefix(s, "<"):
		return api.Act{Kind: api.ActFeed, Text: s}
	}
	return api.Act{Kind: api.ActFeed, Text: rss(s)}
}

// acts of a script, each behind a semicolon.
func acts(s string) []api.Act {
	var l []api.Act
	for _, w := range words(s) {
		l = append(l, act(w))
	}
	return l
}

func words(s string) []string {
	var l []string
	for _, w := range strings.Split(s, ";") {
		if w != "" {
			l = append(l, strings.TrimSpace(w))
		}
	}
	return l
}

// testStep: the shelf then, which is right, and how many are other.
func testStep(t *testing.T, s api.Shelf, a api.Act, want api.Shelf, count int) {
	t.Helper()
	x, n, e := Step(s, a)
	if show(x) != show(want) || n != count || e != api.OK {
		t.Fatalf("%d %.100q of %s: %s, %d, %d; must be %s, %d", a.Kind, a.Text, show(s), show(x), n, e, show(want), count)
	}
	if e := shelf.Check(x); e != api.OK {
		t.Fatalf("%d %.100q of %s: %s, of which Check is %d", a.Kind, a.Text, show(s), show(x), e)
	}
}

func wrongStep(t *testing.T, s api.Shelf, a api.Act, want api.Errno) {
	t.Helper()
	if x, n, e := Step(s, a); show(x) != "[]" || n != 0 || e != want {
		t.Errorf("%d %.100q %.100q of %.200s: %s, %d, %d; must be %d", a.Kind, a.Text, a.Base, show(s), show(x), n, e, want)
	}
}

func TestStepL1(t *testing.T) {
	for _, c := range []struct {
		s, act, want string
		count        int
	}{
		{"", "<feed/>", "", 0},
		{"a1|a q", "<rss><channel/></rss>", "a1|a q", 0},
		{"", "a1", "a1", 1},
		{"", "b5 a5 c9", "c9 a5 b5", 3},
		{"a5x", "a5x", "a5x", 0},
		{"a5x", "a4y", "a5x", 0},
		{"a5x", "a5y b9 c0", "b9 a5y c0", 3},
		{"c9 b5 a4|b", "a9 b5", "a9 c9 b5|b", 1},
		{"", "a1x a9y", "a1x", 1}, // of one id in a feed the first one
		{"a1", "+a", "a1|a", 1},
		{"a1|a", "+a", "a1|a", 1}, // of a Mark 1
		{"a1|a", "-a", "a1", 1},
		{"a1", "-a", "a1", 1},
		{"c3 b2 a1|a c", "+b", "c3 b2 a1|a b c", 1},
		{"c3 b2 a1|a b c", "-b", "c3 b2 a1|a c", 1},
		{"", "drop", "", 0},
		{"a1", "drop", "a1", 0},
		{"a1|b", "drop", "a1|b", 0},
		{"a1|a", "drop", "|a", 1},
		{"c3 b2 a1|a c", "drop", "b2|a c", 2},
		{"c3 b2 a1|a b c d", "drop", "|a b c d", 3},
		{"|a", "a1 b0", "a1 b0|a", 2},
	} {
		testStep(t, shelfOf(c.s), act(c.act), shelfOf(c.want), c.count)
	}
}

// What a feed tells is told in the light of its base, as chapter 8 says.
func TestStepBaseL1(t *testing.T) {
	item := "<item><link>../x</link><title>t</title><description>&lt;a href=y onclick=z>w</description></item>"
	entry := "<entry><id>e</id><updated>1970-01-01T00:00:09Z</updated><link href='q'/><title>E &amp;lt;</title><summary>&lt;p>s</summary></entry>"
	in := func(s string) string { return "<rss><channel>" + s + "</channel></rss>" }
	for _, c := range []struct {
		base, text string
		want       api.Entry
	}{
		{"http://h/p/q", in(item), api.Entry{Id: "http://h/x", Link: "http://h/x", Title: "t", Html: `<a href="http://h/p/y">w</a>`}},
		{"https://k/l/m", "<feed>" + entry + "</feed>", api.Entry{Id: "e", Link: "https://k/l/q", Title: "E &lt;", At: 9, Html: "<p>s</p>"}},
		{"", "<feed>" + entry + "</feed>", api.Entry{Id: "e", Title: "E &lt;", At: 9, Html: "<p>s</p>"}},
		{"no", "<feed>" + entry + "</feed>", api.Entry{Id: "e", Title: "E &lt;", At: 9, Html: "<p>s</p>"}},
	} {
		a := api.Act{Kind: api.ActFeed, Text: c.text, Base: c.base}
		want := api.Shelf{Entries: []api.Entry{c.want}, Read: []string{"r"}}
		testStep(t, api.Shelf{Read: want.Read}, a, want, 1)
		testStep(t, want, a, want, 0)
	}
	testStep(t, shelfOf("a1"), api.Act{Kind: api.ActFeed, Text: in(item)}, shelfOf("a1"), 0) // without a base it has no id
}

func ids(n int) []string {
	var l []string
	for i := range n {
		l = append(l, fmt.Sprintf("r%02d", i))
	}
	return l
}

func full(n int) []api.Entry {
	var l []api.Entry
	for i := range n {
		l = append(l, api.Entry{Id: fmt.Sprintf("e%02d", i), At: 5})
	}
	return l
}

func TestStepFullL1(t *testing.T) {
	s := api.Shelf{Entries: full(api.MaxShelf), Read: ids(api.MaxRead - 1)}
	testStep(t, s, act("a9"), api.Shelf{Entries: append(entries("a9"), s.Entries[:19]...), Read: s.Read}, 1)
	testStep(t, s, act("z4"), s, 0)
	most := api.Shelf{Entries: s.Entries, Read: append([]string{"e07"}, s.Read...)}
	testStep(t, s, act("+e07"), most, 1)
	testStep(t, most, act("+e07"), most, 1)
	testStep(t, most, act("-e07"), s, 1)
	testStep(t, most, act("-e08"), most, 1)
	wrongStep(t, most, act("+e08"), api.ErrMany)
	wrongStep(t, most, act("+r05"), api.ErrNone)
	testStep(t, most, act("drop"), api.Shelf{Entries: slices.Delete(full(api.MaxShelf), 7, 8), Read: most.Read}, 1)
}

// wrongFeeds: of each error feeds that Read of chapter 8 has it of.
func wrongFeeds() map[api.Errno][]api.Act {
	long := strings.Repeat(" ", api.MaxText+1)
	of := func(base string, l ...string) []api.Act {
		var out []api.Act
		for _, s := range l {
			out = append(out, api.Act{Kind: api.ActFeed, Text: s, Base: base})
		}
		return out
	}
	return map[api.Errno][]api.Act{
		api.ErrForm:  of("http://h/", "", "x", "<x", "<rss>", "<feed/><feed/>", rss("a1")+"x"),
		api.ErrMany:  slices.Concat(of(long, "", "<x", "<x/>", rss("a1")), of("", long, rss("a1")+long)),
		api.ErrState: of("", "<rss></feed>", "<rss><channel></rss></channel>"),
		api.ErrNone:  of("", "<rss/>", "<rss><x><channel/></x></rss>"),
		api.ErrTwice: of("", "<rss a='' a=''><channel/></rss>"),
		api.ErrKind:  of("", "<x/>", "<RSS><channel/></RSS>", "<channel/>"),
	}
}

// wrongActs: of each error acts that no script may have.
func wrongActs() map[api.Errno][]api.Act {
	return map[api.Errno][]api.Act{
		api.ErrKind: {{}, {Kind: 5}, {Kind: -1}, {Kind: 1 << 40}, {Kind: -1 << 63}, {Kind: 0, Text: "a", Base: "b"}, {Kind: 5, Text: rss("a1")}},
		api.ErrForm: {{Kind: 2, Text: "a", Base: "b"}, {Kind: 3, Text: "a", Base: "b"}, {Kind: 2, Base: "b"}, {Kind: 3, Base: " "}, {Kind: 4, Text: "a"}, {Kind: 4, Base: "b"}, {Kind: 4, Text: "a", Base: "b"}, {Kind: 2, Text: "none", Base: "b"}},
	}
}

// wrongShelves: of each error one that Check of chapter 9 has it of.
func wrongShelves() map[api.Errno]api.Shelf {
	return map[api.Errno]api.Shelf{
		api.ErrForm:  {Entries: entries("a1"), Read: []string{""}},
		api.ErrMany:  {Entries: entries("a1"), Read: ids(api.MaxRead + 1)},
		api.ErrRange: {Entries: []api.Entry{{Id: "a", At: -1}}},
		api.ErrState: shelfOf("a1 b2"),
		api.ErrTwice: shelfOf("a1 a1"),
	}
}

func TestStepErrorsL1P1(t *testing.T) {
	long := strings.Repeat("a", api.MaxText+1)
	for _, s := range []api.Shelf{{}, shelfOf("b2 a1|a z"), {Entries: full(api.MaxShelf), Read: ids(api.MaxRead)}} {
		for _, m := range []map[api.Errno][]api.Act{wrongActs(), wrongFeeds()} {
			for want, l := range m {
				for _, a := range l {
					wrongStep(t, s, a, want)
				}
			}
		}
		for _, id := range []string{"", "z", "A", "aa", long} {
			wrongStep(t, s, act("+"+id), api.ErrNone)
			wrongStep(t, s, act("-"+id), api.ErrNone)
		}
	}
}

// What is wrong of the shelf comes ahead of what is wrong of the act.
func TestStepShelfFirstL1P1(t *testing.T) {
	l := acts("a1; <feed/>; +a; +q; -a; -q; drop")
	for _, m := range []map[api.Errno][]api.Act{wrongActs(), wrongFeeds()} {
		for _, more := range m {
			l = append(l, more...)
		}
	}
	for want, s := range wrongShelves() {
		for _, a := range l {
			wrongStep(t, s, a, want)
		}
	}
}

func testCheck(t *testing.T, l []api.Act, want api.Errno) {
	t.Helper()
	if e := Check(l); e != want {
		t.Errorf("Check of %d acts, %.200q: %d; must be %d", len(l), fmt.Sprint(l), e, want)
	}
	s, told, e := Run(l)
	if e != want || want != api.OK && (show(s) != "[]" || len(told) != 0) || want == api.OK && len(told) != len(l) {
		t.Errorf("Run of %d acts, %.200q: %s, %v, %d; must be %d", len(l), fmt.Sprint(l), show(s), told, e, want)
	}
}

func TestCheckL2P1(t *testing.T) {
	testCheck(t, nil, api.OK)
	testCheck(t, []api.Act{}, api.OK)
	for _, a := range acts("a1; <x; <; +a; -a; +; -; drop") {
		testCheck(t, []api.Act{a}, api.OK)
	}
	testCheck(t, []api.Act{{Kind: api.ActFeed}, {Kind: api.ActFeed, Base: strings.Repeat("b", api.MaxText+1)}, {Kind: api.ActRead, Text: strings.Repeat("b", api.MaxText+1)}}, api.OK)
	most := slices.Repeat([]api.Act{act("a1"), act("drop")}, api.MaxScript/2)
	testCheck(t, most, api.OK)
	testCheck(t, append(slices.Clone(most), act("drop")), api.ErrMany)
	testCheck(t, make([]api.Act, api.MaxScript+1), api.ErrMany)
	testCheck(t, make([]api.Act, api.MaxScript), api.ErrKind)
	for want, l := range wrongActs() {
		for _, a := range l {
			testCheck(t, []api.Act{a}, want)
			for at := range most {
				testCheck(t, slices.Replace(slices.Clone(most), at, at+1, a), want)
			}
			testCheck(t, append(slices.Clone(most), a), api.ErrMany)
			testCheck(t, []api.Act{a, {}, {Kind: 4, Text: "x"}}, want)
		}
	}
}

func TestRunL2(t *testing.T) {
	for _, c := range []struct {
		script, want, told string
	}{
		{"", "", "[]"},
		{"drop", "", "[0]"},
		{"a1", "a1", "[0]"},
		{"a1; +a", "a1|a", "[0 0]"},
		{"a1; +a; drop", "|a", "[0 0 0]"},
		{"a1; +a; drop; a1", "a1|a", "[0 0 0 0]"},
		{"a1; +a; drop; -a", "|a", "[0 0 0 5]"},
		{"a1; +a; -a; drop", "a1", "[0 0 0 0]"},
		{"+a; a1", "a1", "[5 0]"},
		{"a1x; <; a2y", "a2y", "[0 1 0]"},
		{"a1; +a; <x/>", "a1|a", "[0 0 7]"},
		{"a1; +a; <rss/>", "a1|a", "[0 0 5]"},
		{"a1; +a; <x></y>", "a1|a", "[0 0 4]"},
		{"a1; +a; <x y='' y=''/>", "a1|a", "[0 0 6]"},
		{"a1; +a; <" + strings.Repeat("x", api.MaxText), "a1|a", "[0 0 2]"},
		{"a1; +q; -q; +; -", "a1", "[0 5 5 5 5]"},
		{"b5 a5 c9; b9x a1; +c; drop; +c; d0", "b9x a5 d0|c", "[0 0 0 0 5 0]"},
	} {
		s, told, e := Run(acts(c.script))
		if show(s) != show(shelfOf(c.want)) || fmt.Sprint(told) != c.told || e != api.OK {
			t.Errorf("of %.200s: %s, %v, %d; must be %s, %s", c.script, show(s), told, e, c.want, c.told)
		}
	}
}

// model of a desk, which does the same by another way: entries by their ids, in no order.
type model struct {
	of   map[string]api.Entry
	read map[string]bool
}

func newModel() *model { return &model{map[string]api.Entry{}, map[string]bool{}} }

// shelf that the model stands for.
func (m *model) shelf() api.Shelf {
	s := api.Shelf{Read: slices.Sorted(maps.Keys(m.read))}
	s.Entries = slices.SortedFunc(maps.Values(m.of), func(x, y api.Entry) int {
		if x.At != y.At {
			return y.At - x.At
		}
		return strings.Compare(x.Id, y.Id)
	})
	return s
}

// do what a word of a script says.
func (m *model) do(w string) (int, api.Errno) {
	switch {
	case w == "drop":
		were := len(m.of)
		maps.DeleteFunc(m.of, func(id string, x api.Entry) bool { return m.read[id] })
		return were - len(m.of), api.OK
	case w == "<x/>":
		return 0, api.ErrKind
	case w[0] == '+' || w[0] == '-':
		return m.mark(w[1:], w[0] == '+')
	}
	return m.put(entries(w)), api.OK
}

func (m *model) mark(id string, read bool) (int, api.Errno) {
	if _, has := m.of[id]; !has {
		return 0, api.ErrNone
	}
	if read && !m.read[id] && len(m.read) == api.MaxRead {
		return 0, api.ErrMany
	}
	delete(m.read, id)
	if read {
		m.read[id] = true
	}
	return 1, api.OK
}

func (m *model) put(l []api.Entry) int {
	were, met := maps.Clone(m.of), map[string]bool{}
	for _, x := range l {
		if met[x.Id] || len(met) == api.MaxEntries {
			continue
		}
		met[x.Id] = true
		if old, has := m.of[x.Id]; !has || old.At <= x.At {
			m.of[x.Id] = x
		}
	}
	for _, x := range m.shelf().Entries[min(api.MaxShelf, len(m.of)):] {
		delete(m.of, x.Id)
	}
	others := 0
	for id, x := range m.of {
		if was, had := were[id]; !had || was != x {
			others++
		}
	}
	return others
}

// testScript: Run, and Step after Step, are as the model does it, and every shelf is right.
func testScript(t *testing.T, script string) {
	t.Helper()
	m, s := newModel(), api.Shelf{}
	var told []api.Errno
	for _, w := range words(script) {
		count, want := m.do(w)
		x, n, e := Step(s, act(w))
		if n != count || e != want || e != api.OK && show(x) != "[]" {
			t.Fatalf("of %s at %s: %s, %d, %d; must be %d, %d", script, w, show(x), n, e, count, want)
		}
		if e == api.OK {
			s = x
		}
		if show(s) != show(m.shelf()) || shelf.Check(s) != api.OK {
			t.Fatalf("of %s at %s: %s, which is %d; must be %s", script, w, show(s), shelf.Check(s), show(m.shelf()))
		}
		told = append(told, want)
	}
	if x, got, e := Run(acts(script)); show(x) != show(s) || !slices.Equal(got, told) || e != api.OK {
		t.Fatalf("of %s: %s, %v, %d; must be %s, %v", script, show(x), got, e, show(s), told)
	}
}

func TestShortScriptsL1L2L3P3(t *testing.T) {
	samples.Each([]string{"a1x;", "a2y b1x;", "b3z a1x c2;", "+a;", "-a;", "+b;", "drop;", "<x/>;"}, 4, func(s string) { testScript(t, s) })
}

// draw numbers; the same ones each time.
type draw uint64

func (d *draw) below(n int) int {
	*d = *d*6364136223846793005 + 1442695040888963407
	return int(uint64(*d) >> 33 % uint64(n))
}

// id of one sign.
func (d *draw) id() string {
	return string("abcdefghijklmnopqrstuvwxyzABCDEFGHIJKLMNOPQRSTUVWXYZ"[d.below(52)])
}

// feed of entries, told by a word of a script.
func (d *draw) feed() string {
	w := "a0"
	for range d.below(api.MaxEntries + 3) {
		w += fmt.Sprintf(" %s%d%c", d.id(), d.below(10), 'x'+d.below(2))
	}
	return w
}

// word of a script.
func (d *draw) word() string {
	switch n := d.below(16); {
	case n < 4:
		return d.feed()
	case n < 12:
		return "+" + d.id()
	case n < 13:
		return "-" + d.id()
	case n < 14:
		return "drop"
	}
	return "<x/>"
}

func TestLongScriptsL1L2L3(t *testing.T) {
	var d draw
	for range 300 {
		script := d.feed()
		for range api.MaxScript - 1 {
			script += ";" + d.word()
		}
		testScript(t, script)
	}
}

// Step after Step, far beyond what a script may have: shelves and ids that were read come to their limits.
func TestManyStepsL1L3(t *testing.T) {
	var d draw = 5
	met := map[api.Errno]int{}
	full := 0
	for range 10 {
		m, s := newModel(), api.Shelf{}
		for range 800 {
			w := d.word()
			count, want := m.do(w)
			x, n, e := Step(s, act(w))
			if n != count || e != want || e == api.OK && show(x) != show(m.shelf()) {
				t.Fatalf("of %s at %s: %s, %d, %d; must be %s, %d, %d", show(s), w, show(x), n, e, show(m.shelf()), count, want)
			}
			if e == api.OK {
				s = x
			}
			if e := shelf.Check(s); e != api.OK {
				t.Fatalf("Check of %s: %d", show(s), e)
			}
			met[e]++
			if len(s.Entries) == api.MaxShelf {
				full++
			}
		}
	}
	if met[api.ErrMany] < 10 || met[api.ErrNone] < 10 || full < 10 {
		t.Errorf("of each error: %v; %d shelves are full", met, full)
	}
}

// A feed that comes twice changes nothing the second time, whatever is on the shelf.
func TestTwiceL3(t *testing.T) {
	var d draw = 9
	for range 200 {
		s := api.Shelf{}
		var l []api.Act
		for range api.MaxScript / 2 {
			a := act(d.word())
			l = append(l, a)
			x, _, e := Step(s, a)
			if e != api.OK {
				continue
			}
			if a.Kind == api.ActFeed {
				testStep(t, x, a, x, 0)
			}
			s = x
		}
		var twice []api.Act
		for _, a := range l {
			twice = append(twice, a)
			if a.Kind == api.ActFeed {
				twice = append(twice, a)
			}
		}
		if x, _, e := Run(twice); show(x) != show(s) || e != api.OK {
			t.Fatalf("twice: %s, %d; once: %s", show(x), e, show(s))
		}
	}
}

// An act that has an error is as if it were not there.
func TestErrorsChangeNothingL2(t *testing.T) {
	right := acts("c3 b2 a1; +b; a5x d0; drop; +c; -c; +a")
	want, _, _ := Run(right)
	var wrong []api.Act
	for _, l := range wrongFeeds() {
		wrong = append(wrong, l...)
	}
	wrong = append(wrong, acts("+q; -q; +; -")...)
	for _, a := range wrong {
		for at := range len(right) + 1 {
			s, told, e := Run(slices.Insert(slices.Clone(right), at, a))
			if show(s) != show(want) || len(told) != len(right)+1 || told[at] == api.OK || e != api.OK {
				t.Errorf("%d %.100q at %d: %s, %v, %d; must be %s", a.Kind, a.Text, at, show(s), told, e, show(want))
				continue
			}
			for i, f := range told {
				if i != at && f != api.OK {
					t.Errorf("%d %.100q at %d: %v", a.Kind, a.Text, at, told)
				}
			}
		}
	}
}

// spared: a copy of a shelf with spare room behind both lists, and a look at all of it.
func spared(s api.Shelf) (api.Shelf, func() string) {
	l := append(slices.Clone(s.Entries), entries("y1 z2 y3")...)
	r := append(slices.Clone(s.Read), "y", "z", "q")
	return api.Shelf{Entries: l[:len(s.Entries)], Read: r[:len(s.Read)]}, func() string { return show(api.Shelf{Entries: l, Read: r}) }
}

func spoil(s api.Shelf) {
	for i := range s.Entries[:cap(s.Entries)] {
		s.Entries[:cap(s.Entries)][i] = api.Entry{Id: "spoilt"}
	}
	for i := range s.Read[:cap(s.Read)] {
		s.Read[:cap(s.Read)][i] = "spoilt"
	}
}

func TestStepOnlyReadsP2P3(t *testing.T) {
	for _, w := range []string{"<feed/>", "a9x d4 e0 f9", "a5 b5", "+a", "-a", "+b", "-b", "drop", "<", "+q"} {
		for _, there := range []string{"c9 a5 b5", "c9 a5 b5|a", "a9 b8 c7|a c", "b2 a1|a b"} {
			s, look := spared(shelfOf(there))
			was := look()
			answer, n, e := Step(s, act(w))
			if look() != was {
				t.Errorf("%s of %s: handed in was %s, is %s", w, there, was, look())
			}
			told := show(answer)
			spoil(answer)
			if look() != was {
				t.Errorf("%s of %s: the answer shares memory with what was handed in", w, there)
			}
			again, k, f := Step(s, act(w))
			if show(again) != told || k != n || f != e {
				t.Errorf("%s of %s: was %s, %d, %d, is %s, %d, %d", w, there, told, n, e, show(again), k, f)
			}
			spoil(s)
			if show(again) != told {
				t.Errorf("%s of %s: a later change of what was handed in is seen: %s", w, there, show(again))
			}
		}
	}
}

func TestRunOnlyReadsP2P3(t *testing.T) {
	room := acts("c9 a5 b5; +a; +c; drop; +q; d1; drop; drop")
	was := fmt.Sprint(room)
	s, told, _ := Run(room[:6])
	if fmt.Sprint(room) != was || show(s) != show(shelfOf("b5 d1|a c")) {
		t.Errorf("was %s, is %v; %s, %v", was, room, show(s), told)
	}
	first, errnos := show(s), fmt.Sprint(told)
	spoil(s)
	for i := range told {
		told[i] = api.ErrKind
	}
	again, retold, _ := Run(room[:6])
	if fmt.Sprint(room) != was || show(again) != first || fmt.Sprint(retold) != errnos {
		t.Errorf("was %s, %s, is %s, %v", first, errnos, show(again), retold)
	}
	clear(room)
	if show(again) != first || fmt.Sprint(retold) != errnos {
		t.Errorf("a later change of what was handed in is seen: %s, %v", show(again), retold)
	}
}

// Whatever acts there are, Step answers what the calls do that it is of.
func TestStepIsItsCallsL1(t *testing.T) {
	shelves := []api.Shelf{{}, shelfOf("b2 a1"), shelfOf("c9 b2 a1|a c"), {Entries: full(api.MaxShelf), Read: ids(api.MaxRead)}}
	for _, s := range shelves {
		for _, w := range []string{"a1", "a2y b0", "q9 r0", "<feed/>", "<", "<rss/>"} {
			a := act(w)
			a.Base = "http://h/p"
			l, e := feed.Read(a.Base, a.Text)
			want, count := api.Shelf{}, 0
			if e == api.OK {
				want, count, e = shelf.Put(s, l)
			}
			testSame(t, s, a, want, count, e)
		}
		for _, id := range []string{"a", "b", "c", "e03", "q", ""} {
			for kind, read := range map[int]bool{api.ActRead: true, api.ActUnread: false} {
				want, e := shelf.Mark(s, id, read)
				count := 0
				if e == api.OK {
					count = 1
				}
				testSame(t, s, api.Act{Kind: kind, Text: id}, want, count, e)
			}
		}
		want, count, e := shelf.Drop(s)
		testSame(t, s, api.Act{Kind: api.ActDrop}, want, count, e)
	}
}

func testSame(t *testing.T, s api.Shelf, a api.Act, want api.Shelf, count int, errno api.Errno) {
	t.Helper()
	if x, n, e := Step(s, a); show(x) != show(want) || n != count || e != errno {
		t.Errorf("%d %.100q of %s: %s, %d, %d; must be %s, %d, %d", a.Kind, a.Text, show(s), show(x), n, e, show(want), count, errno)
	}
}
