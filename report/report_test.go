package report

import (
	"fmt"
	"slices"
	"strings"
	"testing"
	"time"

	"marginalia/api"
	"marginalia/clean"
	"marginalia/feed"
	"marginalia/samples"
	"marginalia/token"
	"marginalia/tree"
)

func testLine(t *testing.T, x api.Entry, want string) {
	t.Helper()
	if s, e := Line(x); s != want || e != api.OK {
		t.Errorf("the line of %.200q is\n%.600s, %d; must be\n%.600s", fmt.Sprint(x), s, e, want)
	}
	testPage(t, []api.Entry{x}, "<ul>"+want+"</ul>")
}

// testPage: of entries, whatever was read of them.
func testPage(t *testing.T, l []api.Entry, want string) {
	t.Helper()
	for _, read := range [][]string{nil, {"i"}, {"i", "z"}, {"no"}} {
		if s, e := Page(api.Shelf{Entries: l, Read: read}); s != want || e != api.OK {
			t.Errorf("the page of %.200q, %q is\n%.600s, %d; must be\n%.600s", fmt.Sprint(l), read, s, e, want)
		}
	}
	testClean(t, want)
}

// testClean: a page stays as it is, and is of what is allowed. (No page is read that has more bytes than may be.)
func testClean(t *testing.T, page string) {
	t.Helper()
	if len(page) > api.MaxText {
		return
	}
	for _, base := range []string{"", "no/scheme", "//h/p"} {
		if s, e := clean.Html(base, page); s != page || e != api.OK {
			t.Errorf("by %q\n%.600q is as Html\n%.600q, %d", base, page, s, e)
		}
	}
	if is, e := clean.Is(built(t, page)); !is || e != api.OK {
		t.Errorf("is %.600q clean: %v, %d", page, is, e)
	}
}

func built(t *testing.T, page string) []api.Node {
	t.Helper()
	tokens, e := token.Read(page)
	if e != api.OK {
		t.Fatalf("Read of %.600q: %d", page, e)
	}
	l, e := tree.Build(tokens)
	if e != api.OK {
		t.Fatalf("Build of %.600q: %d", page, e)
	}
	return l
}

func TestLineK1(t *testing.T) {
	for _, c := range []struct {
		x    api.Entry
		want string
	}{
		{api.Entry{Id: "i"}, "<li><p></p></li>"},
		{api.Entry{Id: "i", Title: "t"}, "<li>t<p></p></li>"},
		{api.Entry{Id: "i", Link: "http://h"}, `<li><a href="http://h"></a><p></p></li>`},
		{api.Entry{Id: "i", At: 1}, "<li> 1970-01-01T00:00:01Z<p></p></li>"},
		{api.Entry{Id: "i", Html: "s"}, "<li><p>s</p></li>"},
		{api.Entry{Id: "i", Title: "t", Link: "mailto:m", At: api.MaxAt, Html: "s"}, `<li><a href="mailto:m">t</a> 2099-12-31T23:59:59Z<p>s</p></li>`},
		{api.Entry{Id: "i", Title: "t", At: 951822000}, "<li>t 2000-02-29T11:00:00Z<p></p></li>"},
		{api.Entry{Id: "i", Title: "t", Html: "<b>s</b>"}, "<li>t<p>s</p></li>"},
		{api.Entry{Id: "i", Title: `a <b> & "c" 'd'`}, "<li>a &lt;b&gt; &amp; &quot;c&quot; 'd'<p></p></li>"},
		{api.Entry{Id: "i", Title: "&lt;"}, "<li>&amp;lt;<p></p></li>"},
		{api.Entry{Id: "i", Title: "</li></ul><script>"}, "<li>&lt;/li&gt;&lt;/ul&gt;&lt;script&gt;<p></p></li>"},
		{api.Entry{Id: "i", Link: `http://h/?a=1&b="2"<3>`}, `<li><a href="http://h/?a=1&amp;b=&quot;2&quot;&lt;3&gt;"></a><p></p></li>`},
		{api.Entry{Id: "i", Html: "<p>a</p><b>b</b>&lt;&amp;&quot;"}, "<li><p>a b&lt;&amp;&quot;</p></li>"},
		{api.Entry{Id: "i", Html: "&lt;b&gt;&amp;amp;"}, "<li><p>&lt;b&gt;&amp;amp;</p></li>"},
		{api.Entry{Id: "i", Html: `<ul><li>a</li><li>b<br>c</li></ul><img alt="x" src="http:y">d`}, "<li><p>a b c d</p></li>"},
		{api.Entry{Id: "i", Html: " \n a \t b "}, "<li><p>a b</p></li>"},
		{api.Entry{Id: "i", Title: " \n a \t b "}, "<li> \n a \t b <p></p></li>"},
		{api.Entry{Id: "i", Link: " ht\ntp:x "}, "<li><a href=\" ht\ntp:x \"></a><p></p></li>"},
		{api.Entry{Id: "<i>", Title: "t"}, "<li>t<p></p></li>"}, // an id is not told
		{api.Entry{Id: "i", Title: "\x00\xff\u00e9", Html: "\x00\xff\u00e9"}, "<li>\x00\xff\u00e9<p>\x00\xff\u00e9</p></li>"},
	} {
		testLine(t, c.x, c.want)
	}
}

// lineOf an entry whose words are said: by another way.
func lineOf(x api.Entry, said string) string {
	signs := strings.NewReplacer("&", "&amp;", "<", "&lt;", ">", "&gt;", `"`, "&quot;")
	title := signs.Replace(x.Title)
	if x.Link != "" {
		title = fmt.Sprintf(`<a href="%s">%s</a>`, signs.Replace(x.Link), title)
	}
	if x.At != 0 {
		title += time.Unix(int64(x.At), 0).UTC().Format(" 2006-01-02T15:04:05Z")
	}
	return "<li>" + title + "<p>" + signs.Replace(said) + "</p></li>"
}

// each entry of these titles, links, times and markup goes to f, with its words.
func each(f func(x api.Entry, said string)) {
	html := map[string]string{
		"":                               "",
		"a":                              "a",
		"<p>a</p><b>b</b>&lt;":           "a b<",
		"<ul><li>a</li><li>b</li></ul>c": "a b c",
		"a<br>b<hr>":                     "a b",
		`<a href="http://x">l</a>`:       "l",
		`<img alt="z" src="http://x">`:   "",
		"&amp;amp;&quot;q&quot;":         `&amp;"q"`,
		" a \n b ":                       "a b",
		"&lt;/p&gt;&lt;script&gt;":       "</p><script>",
	}
	for _, title := range []string{"", "t", `<b> & "c"`, "</a></li></ul><script>", "&lt;", " a ", "\n", "'", "\x00\xff", "<!--", "\u00e9", "]]>"} {
		for _, link := range []string{"", "http://h", "mailto:x", `http://h/?a=1&b="2"`, "HTTPS:<>", "ht\ntp:x'", " http:x", "http://h/a/../b", "http:a/..//b"} {
			for _, at := range []int{0, 1, 951822000, api.MaxAt} {
				for says, said := range html {
					f(api.Entry{Id: "i", Title: title, Link: link, At: at, Html: says}, said)
				}
			}
		}
	}
}

func TestEachLineK1K2(t *testing.T) {
	each(func(x api.Entry, said string) {
		if !t.Failed() {
			testLine(t, x, lineOf(x, said))
		}
	})
}

// What a page tells of an entry is read of it as it was.
func TestReadBackK1K2(t *testing.T) {
	each(func(x api.Entry, said string) {
		page, _ := Page(api.Shelf{Entries: []api.Entry{x}})
		l := built(t, page)
		if len(l) != 1 || l[0].Name != "ul" || len(l[0].Kids) != 1 || l[0].Kids[0].Name != "li" {
			t.Fatalf("of %q: %q", fmt.Sprint(x), page)
		}
		link, ahead, words := "", "", ""
		for _, n := range l[0].Kids[0].Kids {
			inner := ""
			for _, kid := range n.Kids {
				inner += kid.Text
			}
			switch n.Name {
			case "a":
				link, ahead = n.Attrs[0].Value, inner
			case "":
				ahead += n.Text
			default:
				words = n.Name + inner
			}
		}
		told := x.Title
		if x.At != 0 {
			told += time.Unix(int64(x.At), 0).UTC().Format(" 2006-01-02T15:04:05Z")
		}
		if link != x.Link || ahead != told || words != "p"+said {
			t.Fatalf("of %q: %q, %q, %q", fmt.Sprint(x), link, ahead, words)
		}
	})
}

// All short titles of signs that might end something, as titles, in links, and as what is said.
func TestShortTextsK1K2(t *testing.T) {
	samples.Each([]string{"<", ">", "&", `"`, "'", "a", "/", "!--", "lt;", "]", " "}, 3, func(s string) {
		said := strings.ReplaceAll(strings.Trim(s, " "), "  ", " ")
		said = strings.ReplaceAll(said, "  ", " ")
		x := api.Entry{Id: "i", Title: s, Link: "http:" + s, Html: strings.NewReplacer("&", "&amp;", "<", "&lt;", ">", "&gt;", `"`, "&quot;").Replace(s)}
		if !t.Failed() {
			testLine(t, x, lineOf(x, said))
		}
	})
}

func TestLongTextsK1K2P1(t *testing.T) {
	for _, sign := range []string{"a", "&", `"`, "\xff"} {
		long := strings.Repeat(sign, api.MaxText)
		for _, x := range []api.Entry{{Id: "i", Title: long}, {Id: "i", Link: ("http:" + long)[:api.MaxText]}, {Id: "i", Title: long, Link: ("http:" + long)[:api.MaxText], At: 7}} {
			testLine(t, x, lineOf(x, ""))
		}
	}
	long := strings.Repeat("w", api.MaxText)
	testLine(t, api.Entry{Id: "i", Html: long}, "<li><p>"+long+"</p></li>")
	signs := strings.Repeat("&amp;", api.MaxText/5)
	testLine(t, api.Entry{Id: "i", Html: signs}, "<li><p>"+signs+"</p></li>")
	testLine(t, api.Entry{Id: strings.Repeat("i", api.MaxId)}, "<li><p></p></li>")
	whole := strings.Repeat("t", api.MaxText-len("<ul><li><p></p></li></ul>"))
	testLine(t, api.Entry{Id: "i", Title: whole}, "<li>"+whole+"<p></p></li>")
}

func TestPageK1K2(t *testing.T) {
	testPage(t, nil, "<ul></ul>")
	testPage(t, []api.Entry{}, "<ul></ul>")
	a, b, c := api.Entry{Id: "a", Title: "A", At: 9}, api.Entry{Id: "b", Title: "B", Link: "http:b", At: 5}, api.Entry{Id: "c", Html: "<i>C</i>"}
	testPage(t, []api.Entry{a, b, c}, `<ul><li>A 1970-01-01T00:00:09Z<p></p></li><li><a href="http:b">B</a> 1970-01-01T00:00:05Z<p></p></li><li><p>C</p></li></ul>`)
	testPage(t, []api.Entry{{Id: "c", At: 2, Title: "1"}, {Id: "a", Title: "2"}, {Id: "b", Title: "3"}}, "<ul><li>1 1970-01-01T00:00:02Z<p></p></li><li>2<p></p></li><li>3<p></p></li></ul>")
	var full []api.Entry
	want := "<ul>"
	for i := range api.MaxShelf {
		full = append(full, api.Entry{Id: fmt.Sprintf("e%02d", i), Title: "<" + strings.Repeat("t", i), Link: "http:x&y"})
		want += lineOf(full[i], "")
	}
	testPage(t, full, want+"</ul>")
}

// A page that is too long to be read as one is of lines each of which is clean.
func TestLongPageK1K2P1(t *testing.T) {
	var full []api.Entry
	want := "<ul>"
	for i := range api.MaxShelf {
		x := api.Entry{Id: fmt.Sprintf("e%02d", i), Title: strings.Repeat("&", i*20), Link: "http:" + strings.Repeat("<", i), At: api.MaxAt - i, Html: strings.Repeat("<b>b</b>", i)}
		line := lineOf(x, strings.Repeat("b", i))
		testLine(t, x, line)
		full = append(full, x)
		want += line
	}
	testPage(t, full, want+"</ul>")
	for i := range full {
		full[i].Title, full[i].Link, full[i].Html = strings.Repeat("&", api.MaxText), "http:", strings.Repeat("&lt;", api.MaxText/4)
	}
	page, e := Page(api.Shelf{Entries: full})
	if n := api.MaxShelf * (5*api.MaxText + api.MaxText + len(lineOf(api.Entry{Link: "http:", At: 1}, ""))); len(page) != n+len("<ul></ul>") || e != api.OK {
		t.Errorf("the longest page has %d bytes, %d", len(page), e)
	}
}

// Links that were told in the light of a base stay by any other one too.
func TestWholeLinksK2(t *testing.T) {
	l, e := feed.Read("http://h/p/q", "<rss><channel><item><link>../x?y=1&amp;z=2#w</link><title>&lt;t></title></item><item><link>mailto:m@n</link></item><item><guid>g</guid><description>&lt;a href=u>v&lt;/a></description></item></channel></rss>")
	if len(l) != 3 || e != api.OK {
		t.Fatal(l, e)
	}
	slices.SortFunc(l, func(x, y api.Entry) int { return strings.Compare(x.Id, y.Id) })
	page, _ := Page(api.Shelf{Entries: l})
	testClean(t, page)
	for _, base := range []string{"http://h/p/q", "https://other/r?s#t", "mailto:x"} {
		if s, e := clean.Html(base, page); s != page || e != api.OK {
			t.Errorf("by %q\n%q is as Html\n%q, %d", base, page, s, e)
		}
	}
}

func wrongLine(t *testing.T, x api.Entry, want api.Errno) {
	t.Helper()
	if s, e := Line(x); s != "" || e != want {
		t.Errorf("the line of %.200q is %.200q, %d; must be %d", fmt.Sprint(x), s, e, want)
	}
	wrongPage(t, api.Shelf{Entries: []api.Entry{x}}, want)
	wrongPage(t, api.Shelf{Entries: []api.Entry{{Id: "h", At: 5}, x}, Read: []string{"b", "a"}}, want)
}

func wrongPage(t *testing.T, s api.Shelf, want api.Errno) {
	t.Helper()
	if p, e := Page(s); p != "" || e != want {
		t.Errorf("the page of %.200q is %.200q, %d; must be %d", fmt.Sprint(s), p, e, want)
	}
}

func TestErrorsK1P1(t *testing.T) {
	long := strings.Repeat("l", api.MaxText+1)
	for want, l := range map[api.Errno][]api.Entry{
		api.ErrForm:  {{}, {Title: "t", Link: "http:x", At: 5, Html: "h"}, {At: -1, Title: long}, {Link: "x"}},
		api.ErrMany:  {{Id: long[:api.MaxId+1]}, {Id: "i", Title: long}, {Id: "i", Link: "http:" + long}, {Id: "i", Html: long}, {Id: "i", Title: long, At: -1}},
		api.ErrRange: {{Id: "i", At: -1}, {Id: "i", At: api.MaxAt + 1}, {Id: "i", At: -1, Html: "<p>"}},
		api.ErrState: {{Id: "i", Link: "x"}, {Id: "i", Link: "javascript:x"}, {Id: "i", Html: "<p>"}, {Id: "i", Html: "<script></script>"}, {Id: "i", Html: "&"}, {Id: "i", Html: "<section></section>"}},
	} {
		for _, x := range l {
			wrongLine(t, x, want)
		}
	}
	ids := strings.Fields(strings.Repeat("a ", api.MaxRead+1))
	wrongPage(t, api.Shelf{Entries: make([]api.Entry, api.MaxShelf+1)}, api.ErrMany)
	wrongPage(t, api.Shelf{Read: ids}, api.ErrMany)
	wrongPage(t, api.Shelf{Read: ids[1:]}, api.ErrState)
	wrongPage(t, api.Shelf{Read: []string{""}}, api.ErrForm)
	wrongPage(t, api.Shelf{Read: []string{long[:api.MaxId+1]}}, api.ErrMany)
	wrongPage(t, api.Shelf{Entries: []api.Entry{{Id: "i"}, {Id: "i"}}}, api.ErrTwice)
	wrongPage(t, api.Shelf{Entries: []api.Entry{{Id: "j"}, {Id: "i"}}}, api.ErrState)
	wrongPage(t, api.Shelf{Entries: []api.Entry{{Id: "i", At: 1}, {Id: "j", At: 2}}}, api.ErrState)
	wrongPage(t, api.Shelf{Entries: []api.Entry{{Id: "i"}}, Read: []string{"i", "i"}}, api.ErrState)
}

func TestOnlyReadP2P3(t *testing.T) {
	room := []api.Entry{{Id: "a", At: 3, Title: "<w>"}, {Id: "b", At: 2, Html: "<b>w</b>"}, {Id: "c", At: 1}, {Id: "d", Title: "w"}, {Id: "d", Title: "w"}}
	read := []string{"a", "b", "b"}
	was := fmt.Sprint(room, read)
	s := api.Shelf{Entries: room[:3], Read: read[:1]}
	page, _ := Page(s)
	line, _ := Line(room[0])
	again, _ := Page(s)
	if fmt.Sprint(room, read) != was || again != page || page[4:4+len(line)] != line {
		t.Errorf("was %s, is %v, %v; %q, %q", was, room, read, page, again)
	}
	told := strings.Clone(page)
	for i := range room {
		room[i] = api.Entry{Id: "spoilt"}
	}
	if page != told {
		t.Errorf("a later change is seen: %q", page)
	}
}
