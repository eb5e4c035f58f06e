package feed

import (
	"fmt"
	"strings"
	"testing"

	"marginalia/api"
	"marginalia/clean"
	"marginalia/date"
	"marginalia/samples"
)

const base = "http://h/p/q"

func rss(s string) string { return "<rss><channel>" + s + "</channel></rss>" }

func atom(s string) string { return "<feed>" + s + "</feed>" }

func item(s string) string { return rss("<item>" + s + "</item>") }

func entry(s string) string { return atom("<entry>" + s + "</entry>") }

// show entries, so that two lists that show the same are the same.
func show(l []api.Entry) string {
	var out strings.Builder
	for _, x := range l {
		fmt.Fprintf(&out, "{%q %q %q %d %q}", x.Id, x.Title, x.Link, x.At, x.Html)
	}
	return out.String()
}

func testRead(t *testing.T, base, s string, want ...api.Entry) {
	t.Helper()
	if l, e := Read(base, s); show(l) != show(want) || e != api.OK {
		t.Errorf("%.200q by %.40q is\n%s, %d; must be\n%s", s, base, show(l), e, show(want))
	}
	testRight(t, base, s)
}

// testRight: whatever Read answers is right: entries that Check takes, each id once, and no more than may be; nothing with an error.
func testRight(t *testing.T, base, s string) []api.Entry {
	t.Helper()
	l, e := Read(base, s)
	if e != api.OK && len(l) > 0 || len(l) > api.MaxEntries {
		t.Fatalf("%q by %q is %s, %d", s, base, show(l), e)
	}
	met := map[string]bool{}
	for _, x := range l {
		if f := Check(x); f != api.OK || met[x.Id] {
			t.Fatalf("%q by %q has %s, which is %d, its id there before: %v", s, base, show([]api.Entry{x}), f, met[x.Id])
		}
		met[x.Id] = true
	}
	return l
}

func testWrong(t *testing.T, base string, want api.Errno, l ...string) {
	t.Helper()
	for _, s := range l {
		if l, e := Read(base, s); len(l) != 0 || e != want {
			t.Errorf("%.200q by %.40q is %s, %d; must be %d", s, base, show(l), e, want)
		}
	}
}

const wholeRss = `<?xml version="1.0"?>
<rss version="2.0"><channel>
  <title>of all</title><link>http://all</link>
  <item>
    <title>a &lt;b&gt; &amp;amp; c</title>
    <link>../x?y=1&amp;z=2</link>
    <guid isPermaLink="false"> g-1 </guid>
    <pubDate>Mon, 02 Jan 2006 15:04:05 +0100</pubDate>
    <description><![CDATA[<section><p onclick=x>a<script>b</script><a href=c>d</a>]]></description>
  </item>
  <item><link>https://i/j</link><pubDate>soon</pubDate></item>
</channel></rss>
`

const wholeAtom = `<feed xmlns="http://www.w3.org/2005/Atom">
  <title>of all</title><id>all</id><link href="http://all"/>
  <entry>
    <title type="text">a<b> c</b></title>
    <link rel="self" href="http://self"/><link rel="alternate" href="x"/><link href="y"/>
    <id>urn:1</id>
    <updated>2006-01-02T15:04:05Z</updated>
    <summary>short</summary>
    <content type="html">&lt;b&gt;long&lt;i&gt;er</content>
  </entry>
  <entry><id>urn:2</id><link href="mailto:q"/><summary>a &amp;lt; b</summary></entry>
</feed>`

func TestWholeFeedsH1(t *testing.T) {
	testRead(t, base, wholeRss,
		api.Entry{Id: "g-1", Title: "a <b> &amp; c", Link: "http://h/x?y=1&z=2", At: 1136210645, Html: `<p>a<a href="http://h/p/c">d</a></p>`},
		api.Entry{Id: "https://i/j", Link: "https://i/j"})
	testRead(t, base, wholeAtom,
		api.Entry{Id: "urn:1", Title: "a c", Link: "http://h/p/x", At: 1136214245, Html: "<b>long<i>er</i></b>"},
		api.Entry{Id: "urn:2", Link: "mailto:q", Html: "a &lt; b"})
	testRead(t, "", wholeRss,
		api.Entry{Id: "g-1", Title: "a <b> &amp; c", At: 1136210645, Html: `<p>a<a>d</a></p>`},
		api.Entry{Id: "https://i/j", Link: "https://i/j"})
}

func TestErrorsH1(t *testing.T) {
	long := strings.Repeat("a", api.MaxText+1)
	for _, b := range []string{"", base, "no"} {
		testWrong(t, b, api.ErrForm, "", "a", "<rss>", "<rss><channel/></rss>x", "<feed/><feed/>", "<feed>&x;</feed>", "<html><p></p")
		testWrong(t, b, api.ErrTwice, "<rss a='' a=''><channel/></rss>")
		testWrong(t, b, api.ErrState, "<rss><channel></rss>", "<x></feed>", "<feed><entry><id>i</id></feed>")
		testWrong(t, b, api.ErrMany, long, atom(long), strings.Repeat("<feed>", 9)+strings.Repeat("</feed>", 9))
		testWrong(t, b, api.ErrKind, "<x/>", "<RSS><channel/></RSS>", "<Feed/>", "<feeds/>", "<fee/>", "<a:feed/>", "<rss2><channel/></rss2>", "<channel><item><guid>g</guid></item></channel>", "<entry/>", "<html><rss><channel/></rss></html>")
		testWrong(t, b, api.ErrNone, "<rss/>", "<rss> </rss>", "<rss>channel</rss>", "<rss><Channel/></rss>", "<rss><x><channel/></x></rss>", "<rss><item><guid>g</guid></item></rss>", "<rss><feed/><entry/></rss>", "<rss channel=''/>", "<rss><!--<channel/>--></rss>")
	}
	testWrong(t, long, api.ErrMany, "", "a", "<x/>", "<rss/>", "<feed/>", "<rss a='' a=''/>", "<x></feed>", long, wholeRss)
	testRead(t, long[1:], "<feed/>")
	testRead(t, long[1:], entry("<id>i</id><link href='http:x'/>"), api.Entry{Id: "i", Link: "http:x"})
	fill := strings.Repeat(" ", api.MaxText-len(atom("")))
	testRead(t, base, atom(fill))
	testWrong(t, base, api.ErrMany, atom(fill+" "))
}

func TestWhichElementsH1(t *testing.T) {
	g := func(id string) api.Entry { return api.Entry{Id: id} }
	testRead(t, "", "<feed/>")
	testRead(t, "", rss(""))
	testRead(t, "", "<rss><channel/></rss>")
	testRead(t, "", "<rss><x/>y<channel><item><guid>1</guid></item>z<item><guid>2</guid></item></channel><channel><item><guid>3</guid></item></channel></rss>", g("1"), g("2"))
	testRead(t, "", "<rss><channel/><channel><item><guid>1</guid></item></channel></rss>")
	testRead(t, "", rss("<x><item><guid>1</guid></item></x><item><guid>2</guid><item><guid>3</guid></item></item><items><guid>4</guid></items><Item><guid>5</guid></Item>"), g("2"))
	testRead(t, "", rss("<entry><id>1</id><guid>1</guid></entry><item><id>2</id></item><item><guid>3</guid></item>"), g("3"))
	testRead(t, "", atom("<x><entry><id>1</id></entry></x><entry><id>2</id><entry><id>3</id></entry></entry><Entry><id>5</id></Entry>z<a:entry><id>6</id></a:entry>"), g("2"))
	testRead(t, "", atom("<item><id>1</id><guid>1</guid></item><entry><guid>2</guid></entry><channel><entry><id>4</id></entry></channel><entry><id>3</id></entry>"), g("3"))
	testRead(t, "", "<rss><channel><item><guid>1</guid></item></channel><item><guid>2</guid></item></rss>", g("1"))
}

func TestWordsH1(t *testing.T) {
	for s, want := range map[string]string{
		"":                                    "",
		"a":                                   "a",
		" \t\r\na\t \n\rb \r\n\t":             "a\t \n\rb",
		" \n ":                                "",
		"\fa\f":                               "\fa\f", // white in markup alone
		"\v a \x00":                           "\v a \x00",
		"\u00a0a\u2003":                       "\u00a0a\u2003",
		"\xff a\x85":                          "\xff a\x85",
		"&#32;a&#9;b&#10;&#xD;":               "a\tb",
		"a&amp;lt;b":                          "a&lt;b",
		"a<b>c</b>d":                          "acd",
		" <b> a </b> <i> c</i><u/> ":          "a   c",
		"<b><c>a<d>e</d></c>f</b>g":           "aefg",
		"a<!-- b -->c<?d e?>f":                "acf",
		"<![CDATA[ <b>a</b>&lt; ]]>":          "<b>a</b>&lt;",
		"a <![CDATA[]]> b":                    "a  b",
		"<title>in</title>":                   "in",
		"<x y='not this'>a</x>":               "a",
		"<x><y><z><w>as deep</w></z></y></x>": "as deep", // as may be
	} {
		testRead(t, "", item("<guid>g</guid><title>"+s+"</title>"), api.Entry{Id: "g", Title: want})
		testRead(t, "", entry("<id>g</id><title>"+s+"</title>"), api.Entry{Id: "g", Title: want})
		if want == "" {
			testRead(t, "", item("<guid>"+s+"</guid>"))
			testRead(t, "", entry("<id>"+s+"</id>"))
			continue
		}
		testRead(t, "", item("<guid>"+s+"</guid>"), api.Entry{Id: want})
		testRead(t, "", entry("<id>"+s+"</id>"), api.Entry{Id: want})
	}
}

func TestChildrenH1(t *testing.T) {
	first := "<title>1</title><title>2</title><guid>a</guid><guid>b</guid><id>a</id><id>b</id>"
	testRead(t, "", item(first), api.Entry{Id: "a", Title: "1"})
	testRead(t, "", entry(first), api.Entry{Id: "a", Title: "1"})
	empty := "<title/><title>2</title><guid>a</guid><id>a</id>"
	testRead(t, "", item(empty), api.Entry{Id: "a"})
	testRead(t, "", entry(empty), api.Entry{Id: "a"})
	others := "<Title>1</Title><x:title>2</x:title><titles>3</titles><x><title>4</title></x><GUID>5</GUID><ID>6</ID><guid>a</guid><id>a</id>"
	testRead(t, "", item(others), api.Entry{Id: "a"})
	testRead(t, "", entry(others), api.Entry{Id: "a"})
	empty2 := "<guid/><guid>b</guid><id> </id><id>b</id>" // the first one is the child, though it is empty
	testRead(t, "", item(empty2))
	testRead(t, "", entry(empty2))
}

func TestTimesH1(t *testing.T) {
	for _, c := range []struct {
		when string
		want int
	}{
		{"", 0},
		{"no", 0},
		{"Thu, 01 Jan 1970 00:00:07 GMT", 7},
		{" \n1 Jan 1970 00:00:07 UT ", 7},
		{"1 Jan <b>1970</b> 00:00:07 UT", 7},
		{"1 Jan 1970 00:00:07", 0},
		{"31 Dec 1969 23:59:59 GMT", 0},
		{"31 Dec 2099 23:59:59 GMT", api.MaxAt},
		{"1 Jan 2100 00:00:00 GMT", 0},
		{"30 Feb 2000 00:00:00 GMT", 0},
		{"1970-01-01T00:00:07Z", 0}, // a time of the other kind
	} {
		testRead(t, "", item("<guid>g</guid><pubDate>"+c.when+"</pubDate><updated>1970-01-01T00:00:09Z</updated>"), api.Entry{Id: "g", At: c.want})
	}
	for _, c := range []struct {
		when string
		want int
	}{
		{"", 0},
		{"no", 0},
		{"1970-01-01T00:00:07Z", 7},
		{"\t1970-01-01T00:00:07Z\n", 7},
		{"1970-01-01T01:00:07+01:00", 7},
		{"1970-01-01", 0},
		{"1969-12-31T23:59:59Z", 0},
		{"2099-12-31T23:59:59Z", api.MaxAt},
		{"2100-01-01T00:00:00Z", 0},
		{"1 Jan 1970 00:00:07 UT", 0},
	} {
		testRead(t, "", entry("<id>g</id><updated>"+c.when+"</updated><pubDate>1 Jan 1970 00:00:09 UT</pubDate><published>1970-01-01T00:00:09Z</published>"), api.Entry{Id: "g", At: c.want})
	}
	testRead(t, "", item("<guid>g</guid><updated>1970-01-01T00:00:09Z</updated>"), api.Entry{Id: "g"})
}

type linkCase struct{ base, link, want string }

// linkCases: a link in the light of a base, whichever kind of feed tells it.
func linkCases() []linkCase {
	near := strings.Repeat("a", 40)
	far := "http://h/" + strings.Repeat("b/", 1480)
	return []linkCase{
		{"", "http://a", "http://a"},
		{"", "HTTPS://a/./b", "HTTPS://a/./b"}, // as it is: there is no base
		{"", "mailto:a", "mailto:a"},
		{"", "", ""},
		{"", "a", ""},
		{"", "//a", ""},
		{"", "ftp://a", ""},
		{"", "javascript:a", ""},
		{"", "ht&#10;tp:a", "ht\ntp:a"},
		{"no", "http://a/../b", "http://a/../b"},
		{"no", "a", ""},
		{base, "", base},
		{base, "a", "http://h/p/a"},
		{base, "../../a", "http://h/a"},
		{base, "?a", "http://h/p/q?a"},
		{base, "#a", "http://h/p/q#a"},
		{base, "//i/a", "http://i/a"},
		{base, "https://a/./b", "https://a/b"},
		{base, "javascript:a", ""},
		{base, "data:a", ""},
		{base, "http:/.//a", "http:/.//a"}, // Resolve has an error
		{base, "data:/.//a", ""},
		{"ftp://h/a", "b", ""},
		{"ftp://h/a", "", ""},
		{"ftp://h/a", "http://b", "http://b"},
		{far, near[:31], far + near[:31]},
		{far, near, ""}, // what Resolve would make is too long
		{far, "http:" + near, "http:" + near},
	}
}

func TestLinksH1(t *testing.T) {
	for _, c := range linkCases() {
		want := api.Entry{Id: "g", Link: c.want}
		testRead(t, c.base, item("<guid>g</guid><link>"+c.link+"</link>"), want)
		testRead(t, c.base, item("<guid>g</guid><link> \n"+c.link+" </link>"), want)
		testRead(t, c.base, entry("<id>g</id><link href='"+c.link+"'/>"), want)
		testRead(t, c.base, entry("<link rel='alternate' href='"+c.link+"'/><id>g</id>"), want)
	}
	testRead(t, "", item("<guid>g</guid><link href='http://a'/>"), api.Entry{Id: "g"})
	testRead(t, "", item("<guid>g</guid><link>http:<b>a</b></link>"), api.Entry{Id: "g", Link: "http:a"})
	testRead(t, "", item("<guid>g</guid><link/><link>http://a</link>"), api.Entry{Id: "g"})
	testRead(t, base, item("<guid>g</guid>"), api.Entry{Id: "g", Link: base})
	testRead(t, base, entry("<id>g</id>"), api.Entry{Id: "g", Link: base})
}

func TestWhichLinkH1(t *testing.T) {
	for s, want := range map[string]string{
		"<link>http:a</link>":                    "",
		"<link href='http:a'>http:b</link>":      "http:a",
		"<link href=' http:a '/>":                " http:a ", // no words: it stays whole
		"<link rel='' href='http:a'/>":           "",
		"<link rel='self' href='http:a'/>":       "",
		"<link rel='Alternate' href='http:a'/>":  "",
		"<link rel=' alternate' href='http:a'/>": "",
		"<link rel='alternates' href='http:a'/>": "",
		"<link REL='self' href='http:a'/>":       "http:a",
		"<link HREF='http:a'/>":                  "",
		"<Link href='http:a'/>":                  "",
		"<x href='http:a'/>":                     "",
		"<x><link href='http:a'/></x>":           "",
		"<link rel='self' href='http:a'/><link href='http:b'/><link rel='alternate' href='http:c'/>": "http:b",
		"<link rel='self' href='http:a'/><link rel='alternate' href='http:c'/><link href='http:b'/>": "http:c",
		"<link/><link href='http:b'/>":                 "",
		"<link rel='alternate'/><link href='http:b'/>": "",
		"<link href='ftp:a'/><link href='http:b'/>":    "",
		"<link rel='edit' href='http:a'/><link rel='enclosure' href='http:b'/><link type='x' href='http:&amp;'/>": "http:&",
	} {
		testRead(t, "", entry("<id>g</id>"+s), api.Entry{Id: "g", Link: want})
		testRead(t, "", entry(s+"<id>g</id>"), api.Entry{Id: "g", Link: want})
	}
}

func TestIdsH1(t *testing.T) {
	sixty := "http:" + strings.Repeat("i", api.MaxId-5)
	for _, c := range []struct{ id, link, want string }{
		{"a", "http:b", "a"},
		{"", "http:b", "http:b"},
		{" \n ", "http:b", "http:b"},
		{"", "b", ""},
		{"", "ftp:b", ""},
		{"ftp:a", "", "ftp:a"}, // an id is no link
		{sixty, "", sixty},
		{sixty + "i", "http:b", ""},
		{"", sixty, sixty},
		{"", sixty + "i", ""},
		{"a", sixty + "i", "a"},
		{"<b/>", "http:b", "http:b"},
	} {
		var want []api.Entry
		if c.want != "" {
			want = []api.Entry{{Id: c.want, Link: c.link}}
		}
		testRead(t, "", item("<guid>"+c.id+"</guid><link>"+c.link+"</link>"), want...)
		testRead(t, "", entry("<id>"+c.id+"</id><link href='"+c.link+"'/>"), want...)
	}
	testRead(t, base, item(""), api.Entry{Id: base, Link: base})
	testRead(t, base, entry("<id/><link href='#b'/>"), api.Entry{Id: base + "#b", Link: base + "#b"})
	testRead(t, "", item("<link>http:b</link>"), api.Entry{Id: "http:b", Link: "http:b"})
}

func TestSaysH1(t *testing.T) {
	for _, c := range []struct{ s, want string }{
		{"", ""},
		{" a ", "a"},
		{"&lt;b onclick='x'&gt;c&lt;script&gt;d", "<b>c</b>"},
		{"<b>a</b>", "a"}, // the words, not the elements
		{"<![CDATA[<p>a<p>b]]>", "<p>a</p><p>b</p>"},
		{"<![CDATA[a &amp;lt; b]]>", "a &amp;lt; b"},
		{"&lt;<x>b</x>&gt;a", "<b>a</b>"},
		{"&lt;a href='c'&gt;a", `<a href="http://h/p/c">a</a>`},
		{"&lt;img src='javascript:a'&gt;b", "b"},
		{"a &amp; b", "a &amp; b"},
		{"&lt;b", "&lt;b"},
	} {
		x := api.Entry{Id: "g", Link: base, Html: c.want}
		testRead(t, base, item("<guid>g</guid><description>"+c.s+"</description><content>no</content><summary>no</summary>"), x)
		testRead(t, base, entry("<id>g</id><description>no</description><summary>no</summary><content>"+c.s+"</content><content>no</content>"), x)
		testRead(t, base, entry("<id>g</id><description>no</description><summary>"+c.s+"</summary><summary>no</summary>"), x)
	}
	x := api.Entry{Id: "g"}
	testRead(t, "", entry("<id>g</id><summary>s</summary><content/>"), x)
	testRead(t, "", entry("<id>g</id><content> </content><summary>s</summary>"), x)
	testRead(t, "", entry("<id>g</id><content src='http:a'/><summary>s</summary>"), x)
	testRead(t, "", item("<guid>g</guid><summary>s</summary>"), x)
	testRead(t, "", entry("<id>g</id><x><content>c</content></x><Summary>s</Summary>"), x)
}

func TestLeftOutH1(t *testing.T) {
	says := func(n int) string { return "<description><![CDATA[" + strings.Repeat("&", n) + "]]></description>" }
	fits := api.MaxText / len("&amp;")
	testRead(t, "", item("<guid>a</guid>"+says(fits)), api.Entry{Id: "a", Html: strings.Repeat("&amp;", fits)})
	testRead(t, "", item("<guid>a</guid>"+says(fits+1)))
	// What is left out has no id that another one could have twice.
	testRead(t, "", rss("<item><guid>a</guid>"+says(fits+1)+"</item><item><guid>a</guid></item>"), api.Entry{Id: "a"})
	testRead(t, "", rss("<item/><item><guid>a</guid></item><item> </item>"), api.Entry{Id: "a"})
	testRead(t, "", atom("<entry><id>a</id><title>1</title></entry><entry><id>a</id><title>2</title></entry><entry><id>A</id></entry><entry><id> a </id></entry>"), api.Entry{Id: "a", Title: "1"}, api.Entry{Id: "A"})
	testRead(t, "", rss("<item><guid>http:a</guid></item><item><link>http:a</link></item>"), api.Entry{Id: "http:a"})
	testRead(t, "", rss("<item><link>http:a</link></item><item><guid>http:a</guid></item>"), api.Entry{Id: "http:a", Link: "http:a"})
	testRead(t, base, rss("<item/><item/><item><title>a</title></item>"), api.Entry{Id: base, Link: base})
}

func TestManyH1(t *testing.T) {
	for n := range 2*api.MaxEntries + 1 {
		var items, entries, spoilt strings.Builder
		var want []api.Entry
		for i := range n {
			fmt.Fprintf(&items, "<item><guid>%d</guid></item>", i)
			fmt.Fprintf(&entries, "<entry><id>%d</id></entry>", i)
			fmt.Fprintf(&spoilt, "<item/><item><guid>%d</guid></item><item><guid>0</guid></item>", i)
			if i < api.MaxEntries {
				want = append(want, api.Entry{Id: fmt.Sprint(i)})
			}
		}
		testRead(t, "", rss(items.String()), want...)
		testRead(t, "", atom(entries.String()), want...)
		testRead(t, "", rss(spoilt.String()), want...) // those that are left out do not count
	}
}

func TestCheckH2(t *testing.T) {
	text := func(n int) string { return strings.Repeat("t", n) }
	link := func(n int) string { return "http:" + text(n-5) }
	for _, c := range []struct {
		x    api.Entry
		want api.Errno
	}{
		{api.Entry{}, api.ErrForm},
		{api.Entry{Id: " "}, api.OK},
		{api.Entry{Id: "\x00<&"}, api.OK},
		{api.Entry{Id: text(api.MaxId)}, api.OK},
		{api.Entry{Id: text(api.MaxId + 1)}, api.ErrMany},
		{api.Entry{Id: "i", Title: text(api.MaxText)}, api.OK},
		{api.Entry{Id: "i", Title: text(api.MaxText + 1)}, api.ErrMany},
		{api.Entry{Id: "i", Title: "<b>&\xff"}, api.OK},
		{api.Entry{Id: "i", Link: link(api.MaxText)}, api.OK},
		{api.Entry{Id: "i", Link: link(api.MaxText + 1)}, api.ErrMany},
		{api.Entry{Id: "i", Html: text(api.MaxText)}, api.OK},
		{api.Entry{Id: "i", Html: text(api.MaxText + 1)}, api.ErrMany},
		{api.Entry{Id: "i", At: 0}, api.OK},
		{api.Entry{Id: "i", At: -1}, api.ErrRange},
		{api.Entry{Id: "i", At: -1 << 63}, api.ErrRange},
		{api.Entry{Id: "i", At: api.MaxAt}, api.OK},
		{api.Entry{Id: "i", At: api.MaxAt + 1}, api.ErrRange},
		{api.Entry{Id: "i", At: 1<<63 - 1}, api.ErrRange},
		{api.Entry{Id: "i", Link: "http:"}, api.OK},
		{api.Entry{Id: "i", Link: "HTTPS://a"}, api.OK},
		{api.Entry{Id: "i", Link: "mailto:a"}, api.OK},
		{api.Entry{Id: "i", Link: " h\ttt\np:a"}, api.OK},
		{api.Entry{Id: "i", Link: " "}, api.ErrState},
		{api.Entry{Id: "i", Link: "a"}, api.ErrState},
		{api.Entry{Id: "i", Link: "//a"}, api.ErrState},
		{api.Entry{Id: "i", Link: "ftp://a"}, api.ErrState},
		{api.Entry{Id: "i", Link: "java\nscript:a"}, api.ErrState},
	} {
		if e := Check(c.x); e != c.want {
			t.Errorf("Check of %.100s is %d; must be %d", show([]api.Entry{c.x}), e, c.want)
		}
	}
}

func TestCheckHtmlH2(t *testing.T) {
	for s, want := range map[string]bool{
		"":                                 true,
		" ":                                true,
		"a":                                true,
		"a &amp; &lt;b&gt; &quot;":         true,
		"a & b":                            false,
		"a > b":                            false,
		"a < b":                            false,
		"\"":                               false,
		"'":                                true,
		"&apos;":                           false,
		"&#65;":                            false,
		"<b>x</b>":                         true,
		"<b>x":                             false,
		"<b>x</b ></b>":                    false,
		"<B>x</B>":                         false,
		"<b >x</b>":                        false,
		"x</b>":                            false,
		"<p>a</p><p>b</p>":                 true,
		"<p>a<p>b</p></p>":                 false,
		"<ul><li>a</li><li>b</li></ul>":    true,
		"<br>":                             true,
		"<br></br>":                        false,
		"<br/>":                            false,
		"<hr>a":                            true,
		"a<!-- b -->":                      false,
		"<script></script>":                false,
		"<section>a</section>":             false,
		"<b title=\"a\">c</b>":             false,
		"<a title=\"a\">c</a>":             true,
		"<a title='a'>c</a>":               false,
		"<a title=a>c</a>":                 false,
		"<a title=\"a\" title=\"b\">c</a>": false,
		"<a href=\"x\"></a>":               false,
		"<a href=\"http:x\"></a>":          true,
		"<a href=\"http:&amp;\"></a>":      true,
		"<a href=\"http:&\"></a>":          false,
		"<a  href=\"http:x\"></a>":         false,
		"<a href=\"javascript:x\"></a>":    false,
		"<img src=\"http:x\">":             true,
		"<img alt=\"y\" src=\"http:x\">":   true,
		"<img alt=\"y\">":                  false,
		"<img>":                            false,
		"<img src=\"http:x\"></img>":       false,
		strings.Repeat("<i>", 8) + "a" + strings.Repeat("</i>", 8): true,
		strings.Repeat("<i>", 9) + "a" + strings.Repeat("</i>", 9): false,
		strings.Repeat("a", api.MaxText-3) + "<b>":                 false,
	} {
		e := Check(api.Entry{Id: "i", Html: s})
		if want && e != api.OK || !want && e != api.ErrState {
			t.Errorf("Check of %.100q is %d; is it clean: %v", s, e, want)
		}
	}
}

// Html is clean just if what cleans it by no base leaves it to the byte.
func TestCleanStaysH2P1(t *testing.T) {
	pieces := []string{"<p>", "</p>", "<li>", "</li>", "<b>", "</b>", "<br>", "<x>", "a", "&amp;", "&", "\"", `<a href="http:x">`, `<a href="y">`, "</a>", `<img src="http:x">`, "<img>"}
	count := [2]int{}
	samples.Each(pieces, 4, func(s string) {
		left, _ := clean.Html("", s)
		want, which := api.ErrState, 0
		if left == s {
			want, which = api.OK, 1
		}
		count[which]++
		if e := Check(api.Entry{Id: "i", Html: s}); e != want {
			t.Fatalf("Check of %q is %d; must be %d", s, e, want)
		}
	})
	if min(count[0], count[1]) < 500 {
		t.Errorf("not clean and clean: %v", count)
	}
}

// Of several errors the one that is named first.
func TestCheckOrderH2P1(t *testing.T) {
	long := strings.Repeat("t", api.MaxText+1)
	faults := []struct {
		spoil func(x *api.Entry)
		want  api.Errno
	}{
		{func(x *api.Entry) { x.Id = "" }, api.ErrForm},
		{func(x *api.Entry) { x.Title = long }, api.ErrMany},
		{func(x *api.Entry) { x.Link = long }, api.ErrMany},
		{func(x *api.Entry) { x.Html = "<b>" + long }, api.ErrMany},
		{func(x *api.Entry) { x.At = -1 }, api.ErrRange},
		{func(x *api.Entry) { x.Link += "ftp:" }, api.ErrState},
		{func(x *api.Entry) { x.Html += "<x>" }, api.ErrState},
	}
	for set := range 1 << len(faults) {
		for _, id := range []string{"i", strings.Repeat("i", api.MaxId+1)} {
			x, want := api.Entry{Id: id}, api.OK
			for i, f := range faults {
				if set>>i&1 == 0 {
					continue
				}
				f.spoil(&x)
				if want == api.OK || f.want < want {
					want = f.want
				}
			}
			if len(x.Id) > api.MaxId && want != api.ErrForm {
				want = api.ErrMany
			}
			if e := Check(x); e != want {
				t.Errorf("Check of %.200s is %d; must be %d", show([]api.Entry{x}), e, want)
			}
		}
	}
}

// However wrong a feed is, what it tells is right: each byte of a whole one without it, and others for it.
func TestHoweverWrongH3P1(t *testing.T) {
	for _, s := range []string{wholeRss, wholeAtom} {
		told := 0
		for i := range s {
			for _, sign := range []string{"", "<", ">", "/", "&", ";", "'", "\"", " ", "x", "\x00", "\xff", "<b>", "</b>", "]]>", "-->"} {
				for _, b := range []string{"", base} {
					told += len(testRight(t, b, s[:i]+sign+s[i+1:]))
				}
			}
			testRight(t, base, s[:i])
			testRight(t, base, s[i:])
		}
		if told < 10000 {
			t.Errorf("%d entries are told", told)
		}
	}
}

func TestWhateverIsToldH3P1P3(t *testing.T) {
	pieces := []string{"<guid>a</guid>", "<id>b</id>", "<link>http:c</link>", "<link href='d'/>", "<link rel='alternate' href='javascript:e'/>", "<title>&lt;</title>",
		"<description>&lt;p&gt;&lt;script&gt;</description>", "<content>&lt;a href='f'&gt;</content>", "<pubDate>1 Jan 2000 00:00:00 UT</pubDate>", "</item><item>", "</entry><entry>"}
	for _, b := range []string{"", base, "javascript:x", "http:"} {
		told := 0
		samples.Each(pieces, 3, func(s string) {
			for _, doc := range []string{item(s), entry(s)} {
				l := testRight(t, b, doc)
				told += len(l)
				if again, _ := Read(b, doc); show(again) != show(l) {
					t.Fatalf("%q by %q is %s, and again %s", doc, b, show(l), show(again))
				}
			}
		})
		if told < 100 {
			t.Errorf("by %q: %d entries are told", b, told)
		}
	}
}

// All that an entry tells is what the chapters ahead make of it, however they stand in it.
func TestOrderOfChildrenH1(t *testing.T) {
	parts := []string{"<title>t</title>", "<link>c</link>", "<guid>g</guid>", "<pubDate>1 Jan 2000 00:00:00 UT</pubDate>", "<description>&lt;i&gt;s</description>"}
	at, _ := date.Mail("1 Jan 2000 00:00:00 UT")
	want := api.Entry{Id: "g", Title: "t", Link: "http://h/p/c", At: at, Html: "<i>s</i>"}
	for turn := range parts {
		testRead(t, base, item(strings.Join(parts[turn:], " ")+"<x/>"+strings.Join(parts[:turn], "y")), want)
	}
}

func TestAnswerIsNewP2P3(t *testing.T) {
	for _, s := range []string{wholeRss, wholeAtom} {
		l, _ := Read(base, s)
		was := show(l)
		again, _ := Read(base, s)
		l = l[:cap(l)]
		for i := range l {
			l[i] = api.Entry{Id: "spoilt"}
		}
		if show(again) != was {
			t.Errorf("two answers share memory: %s", show(again))
		}
		if third, _ := Read(base, s); show(third) != was {
			t.Errorf("an answer that is changed is seen later: %s", show(third))
		}
	}
}
