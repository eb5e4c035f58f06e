package find

import (
	"fmt"
	"slices"
	"strings"
	"testing"

	"marginalia/api"
	"marginalia/feed"
	"marginalia/samples"
	"marginalia/shelf"
)

func testWords(t *testing.T, html, want string) {
	t.Helper()
	if s, e := Words(html); s != want || e != api.OK {
		t.Errorf("the words of %.200q are %q, %d; must be %q", html, s, e, want)
	}
}

func TestWordsJ1(t *testing.T) {
	for html, want := range map[string]string{
		"":                                "",
		"a":                               "a",
		"a b":                             "a b",
		"<p></p>":                         "",
		"<br><hr><ul><li></ul>":           "",
		"<p>a</p><p>b</p>":                "a b",
		"<p>a<p>b":                        "a b",
		"x<p>a</p>y":                      "x a y",
		"<blockquote>a<p>b</blockquote>c": "a b c",
		"a<ul><li>b</li><li>c</li></ul>d": "a b c d",
		"a<ul>b</ul>c<ol>d</ol>e":         "a b c d e",
		"a<li>b</li>c":                    "a b c",
		"a<ol><li>b<ul><li>c":             "a b c",
		"a<br>b":                          "a b",
		"a<hr>b":                          "a b",
		"a<img src=x alt=y>b":             "a b",
		"a</br>b":                         "ab", // a tag that closes nothing
		"a <br> b":                        "a b",
		"<script>a</script>b":             "ab", // as chapters 2 and 3 read it, not as chapter 5 cleans it
		"<p title=a>b</p>":                "b",
		"a<!-- b -->c":                    "ac",
		"a<p":                             "a<p",
		"&lt;p&gt;a&amp;amp;":             "<p>a&amp;",
		"a&lt;br&gt;b":                    "a<br>b",
		"a&#32;&#10;b":                    "a b",
		"&#32;a&#9;":                      "a",
		"A<B>B</B>":                       "AB", // letters as they are
		"<P>A<BR>B":                       "A B",
		"\xff<br>\x00":                    "\xff \x00",
	} {
		testWords(t, html, want)
	}
}

// Elements that part words, and others, that mark them alone.
func TestWhatPartsJ1J2(t *testing.T) {
	for _, name := range []string{"p", "li", "blockquote", "ul", "ol"} {
		for _, c := range [][2]string{{"a<N>b</N>c", "a b c"}, {"<N>b</N>c", "b c"}, {"a<N>b", "a b"}, {"a<N></N>c", "a c"}, {"<i>a<N>b</N></i>c", "a b c"}, {"a<N>b<i>c</i>d</N>e", "a bcd e"}} {
			testWords(t, strings.ReplaceAll(c[0], "N", name), c[1])
		}
	}
	for _, name := range []string{"br", "hr", "img"} {
		testWords(t, "a<"+name+">b<i>c<"+name+"></i>d", "a bc d")
	}
	for _, name := range []string{"a", "b", "i", "em", "strong", "code", "span", "div", "section", "script", "style", "h1", "td", "u", "pp", "ull", "image", "wbr", "dl"} {
		testWords(t, "a<"+name+">b</"+name+">c", "abc")
		testWords(t, "a <"+name+">b</"+name+"> c", "a b c")
		testWords(t, "<p>a<"+name+" href=x>b</p>", "ab")
	}
}

func TestWhiteJ1(t *testing.T) {
	samples.Each([]string{" ", "\t", "\n", "\f", "\r", "<br>", "<p>", "<b></b>"}, 3, func(s string) {
		between := " "
		if strings.ReplaceAll(s, "<b></b>", "") == "" {
			between = ""
		}
		testWords(t, "a"+s+"c", "a"+between+"c")
		testWords(t, s+"c"+s, "c")
		testWords(t, s, "")
	})
	for _, s := range []string{"\v", "\x00", "\x1f", "\xa0", "\u00a0", "\u0085", "\u2003", "\u3000", "\xc2", "\ufffd", "\x7f"} {
		testWords(t, s, s)
		testWords(t, "a"+s+s+"b", "a"+s+s+"b")
		testWords(t, " "+s+" \n "+s+" ", s+" "+s)
	}
}

func TestLongJ1P1(t *testing.T) {
	long := strings.Repeat("a", api.MaxText)
	testWords(t, long, long)
	testWords(t, strings.Repeat("<p>", api.MaxText/3), "")
	testWords(t, strings.Repeat("a ", api.MaxText/2), strings.TrimSpace(strings.Repeat("a ", api.MaxText/2)))
	deep := strings.Repeat("<blockquote>a", api.MaxDepth+2)
	testWords(t, deep, strings.Repeat("a ", api.MaxDepth-1)+"aaa") // the last two did not come into the tree
	for _, s := range []string{long + "a", strings.Repeat(" ", api.MaxText+1), strings.Repeat("<p>", api.MaxText/3) + "a"} {
		if w, e := Words(s); w != "" || e != api.ErrMany {
			t.Errorf("of %d bytes: %.100q, %d", len(s), w, e)
		}
	}
}

// told: words by another way: each tag of the given ones by hand, in markup where every tag has its end and stands where it may.
func told(html string) string {
	for _, tag := range []string{"<b>", "</b>", "<a>", "</a>"} {
		html = strings.ReplaceAll(html, tag, "")
	}
	for _, tag := range []string{"<br>", "<hr>", "<p>", "</p>", "<ul>", "</ul>", "<li>", "</li>"} {
		html = strings.ReplaceAll(html, tag, " ")
	}
	return strings.Join(strings.Fields(html), " ")
}

func TestWordsByHandJ1P3(t *testing.T) {
	samples.Each([]string{"x", " ", "\n", "<br>", "<hr>", "<p>x</p>", "<b>x</b>", "<b> x</b>", "<ul><li>x</li></ul>", "<a><b>x</b></a>", "<p><b></b></p>"}, 4, func(s string) {
		got, e := Words(s)
		again, _ := Words(s)
		if got != told(s) || e != api.OK || again != got {
			t.Fatalf("the words of %q are %q, %d; must be %q", s, got, e, told(s))
		}
	})
}

func entry(title, html string) api.Entry { return api.Entry{Id: "i", Title: title, Html: html} }

func testHas(t *testing.T, x api.Entry, word string, want bool) {
	t.Helper()
	if is, e := Has(x, word); is != want || e != api.OK {
		t.Errorf("has %.200q, %.200q the word %q: %v, %d; must be %v", x.Title, x.Html, word, is, e, want)
	}
	l, e := All(api.Shelf{Entries: []api.Entry{x}}, word)
	if len(l) > 0 != want || want && l[0] != x.Id || e != api.OK {
		t.Errorf("of %.200q, %.200q and %q: %q, %d; must be %v", x.Title, x.Html, word, l, e, want)
	}
}

func TestHasJ1(t *testing.T) {
	for _, c := range []struct {
		title, html, word string
		want              bool
	}{
		{"", "", "a", false},
		{"a", "", "a", true},
		{"", "a", "a", true},
		{"b", "c", "a", false},
		{"xay", "", "a", true},
		{"", "xay", "a", true},
		{"one two", "", "e t", true},
		{"one  two", "", "one two", false}, // a title is no markup: its blanks stay
		{"one  two", "", "one  two", true},
		{"", "one  two", "one two", true},
		{"", "one  two", "one  two", false},
		{"", "one<br>two", "one two", true},
		{"", "one<br>two", "onetwo", false},
		{"", "<p>one</p><p>two</p>", "e t", true},
		{"", "one\n<b>two</b>", "one two", true},
		{"", " a ", " ", false},
		{"", "a b", " ", true},
		{" ", "", " ", true},
		{"\t", "", "\t", true},
		{"", "a\tb", "\t", false},
		{"ab", "cd", "bc", false}, // in one or in the other
		{"ab", "cd", "b c", false},
		{"a&lt;b", "", "<", false},
		{"a<b", "", "<", true},
		{"<b>", "", "b", true},
		{"", "a&lt;b", "<", true},
		{"", "a&lt;b", "&lt;", false},
		{"", "<b>a</b>", "b", false},
		{"", "<b>a</b>", "<", false},
		{"", `<a title="b">c</a>`, "b", false},
		{"", `a<img alt="b" src="http:x">`, "b", false},
		{"abc", "", "abcd", false},
		{"aab", "", "ab", true},
		{"a\x00b", "", "\x00", true},
		{"a\xffb", "", "\xff", true},
	} {
		testHas(t, entry(c.title, c.html), c.word, c.want)
	}
	whole := api.Entry{Id: "id", Link: "http:link", At: 7}
	for _, word := range []string{"id", "link", "http", "7"} {
		testHas(t, whole, word, false) // neither the title nor what it says
	}
}

// Letters small or not are the same; no other bytes are.
func TestLettersJ1(t *testing.T) {
	for _, c := range []struct {
		text, word string
		want       bool
	}{
		{"AbC", "aBc", true},
		{"abc", "ABC", true},
		{"ABC", "abc", true},
		{"xAZy", "az", true},
		{"@[`{", "`{@[", false},
		{"@", "`", false},
		{"[", "{", false},
		{"{", "[", false},
		{"\u00c4", "\u00e4", false},
		{"\u00e4", "\u00e4", true},
		{"\u212a", "k", false},
		{"k", "\u212a", false},
		{"\u0130", "i", false},
		{"\u017f", "s", false},
		{"\xc1", "\xe1", false},
		{"A\xff", "a\xfe", false},
		{"A\xff", "a\xff", true},
		{"A\xff", "a\ufffd", false},
	} {
		testHas(t, entry(c.text, ""), c.word, c.want)
		testHas(t, entry("", "<b>"+c.text+"</b>"), c.word, c.want)
	}
}

// What is marked is found as what is plain.
func TestMarkedJ2(t *testing.T) {
	for _, html := range []string{
		"one two",
		"<b>one two</b>",
		"<b>one</b> two",
		"o<i>n</i>e t<em>w</em>o",
		"<b>o<i>n</i></b>e <code>two</code>",
		"<strong>ONE</strong> <a href=\"http:x\">Two</a>",
		"<ul><li>one two</li></ul>",
		"<ul><li>one</li><li>two</li></ul>",
		"<ol><li>zero one</li></ol><p>two</p>",
		"<blockquote>one<br>two</blockquote>",
		"<p>one</p>two",
		"one<hr><b>two</b>",
		"one<img src=\"http:x\">two",
		"one\n\t<i>\n two</i>",
	} {
		for _, word := range []string{"one two", "One", "TWO", "e t"} {
			testHas(t, entry("", html), word, true)
		}
		for _, word := range []string{"onetwo", "two one", "b", "li"} {
			testHas(t, entry("", html), word, false)
		}
	}
}

func TestAllJ1(t *testing.T) {
	s := api.Shelf{
		Entries: []api.Entry{{Id: "c", At: 9, Title: "Red"}, {Id: "a", At: 5, Html: "<b>re</b>d"}, {Id: "b", At: 5, Html: "re d"}, {Id: "d", Title: "blue", Html: "<i>RED</i>"}},
		Read:    []string{"a", "x"},
	}
	for word, want := range map[string]string{"red": "c a d", "RED": "c a d", "re": "c a b d", "re d": "b", "blue": "d", "x": "", "d": "c a b d", "c": "", "redd": ""} {
		if l, e := All(s, word); strings.Join(l, " ") != want || e != api.OK {
			t.Errorf("of %q: %q, %d; must be %s", word, l, e, want)
		}
	}
	if l, e := All(api.Shelf{}, "a"); len(l) != 0 || e != api.OK {
		t.Errorf("of an empty shelf: %q, %d", l, e)
	}
	s = api.Shelf{}
	for i := range api.MaxShelf {
		s.Entries = append(s.Entries, api.Entry{Id: fmt.Sprintf("e%02d", i), Title: "t"})
	}
	if l, e := All(s, "T"); len(l) != api.MaxShelf || !slices.IsSorted(l) || e != api.OK {
		t.Errorf("of a full shelf: %q, %d", l, e)
	}
}

func wrongHas(t *testing.T, x api.Entry, word string, want api.Errno) {
	t.Helper()
	if is, e := Has(x, word); is || e != want {
		t.Errorf("has %.100v the word %q: %v, %d; must be %d", x, word, is, e, want)
	}
}

func wrongAll(t *testing.T, s api.Shelf, word string, want api.Errno) {
	t.Helper()
	if l, e := All(s, word); len(l) != 0 || e != want {
		t.Errorf("of %.100v and %q: %q, %d; must be %d", s, word, l, e, want)
	}
}

func TestErrorsJ1P1(t *testing.T) {
	long := strings.Repeat("w", api.MaxId+1)
	wrongHas(t, entry("", ""), "", api.ErrForm)
	wrongHas(t, entry(long, long), long, api.ErrMany)
	testHas(t, entry(long, ""), long[1:], true)
	testHas(t, entry("", long), long[1:], true)
	wrongAll(t, api.Shelf{}, "", api.ErrForm)
	wrongAll(t, api.Shelf{}, long, api.ErrMany)
	wrongAll(t, api.Shelf{Entries: []api.Entry{entry("", "")}}, "", api.ErrForm)
	wrongAll(t, api.Shelf{Entries: []api.Entry{entry(long, "")}}, long, api.ErrMany)
	for _, x := range []api.Entry{{Title: "a"}, {Id: "i", Title: "a", At: -1}, {Id: long, Title: "a"}, entry("a", "<p>"), {Id: "i", Title: "a", Link: "x"}, entry("a", strings.Repeat("a", api.MaxText+1))} {
		for _, word := range []string{"", "a", "b", long} {
			wrongHas(t, x, word, feed.Check(x))
			wrongAll(t, api.Shelf{Entries: []api.Entry{x}}, word, feed.Check(x))
			wrongAll(t, api.Shelf{Entries: []api.Entry{{Id: "h", At: 3, Title: "a"}, x}}, word, feed.Check(x))
		}
	}
	for _, s := range []api.Shelf{
		{Entries: make([]api.Entry, api.MaxShelf+1)},
		{Entries: []api.Entry{{Id: "a", Title: "a"}, {Id: "a", Title: "a"}}},
		{Entries: []api.Entry{{Id: "b", Title: "a"}, {Id: "a", Title: "a"}}},
		{Entries: []api.Entry{{Id: "a", Title: "a"}}, Read: []string{""}},
		{Entries: []api.Entry{{Id: "a", Title: "a"}}, Read: []string{"b", "a"}},
		{Read: make([]string, api.MaxRead+1)},
	} {
		for _, word := range []string{"", "a", "b", long} {
			wrongAll(t, s, word, shelf.Check(s))
		}
	}
}

func TestOnlyReadP2P3(t *testing.T) {
	room := []api.Entry{{Id: "a", At: 3, Title: "w"}, {Id: "b", At: 2, Html: "<b>w</b>"}, {Id: "c", At: 1}, {Id: "d", Title: "w"}, {Id: "d", Title: "w"}}
	read := []string{"a", "b", "b"}
	was := fmt.Sprint(room, read)
	s := api.Shelf{Entries: room[:3], Read: read[:1]}
	l, _ := All(s, "W")
	if fmt.Sprint(room, read) != was || fmt.Sprint(l) != "[a b]" {
		t.Errorf("was %s, is %v, %v; %q", was, room, read, l)
	}
	l = l[:cap(l)]
	for i := range l {
		l[i] = "spoilt"
	}
	again, _ := All(s, "W")
	if fmt.Sprint(room, read) != was || fmt.Sprint(again) != "[a b]" {
		t.Errorf("was %s, is %v, %v; %q", was, room, read, again)
	}
	room[0], room[1] = api.Entry{}, api.Entry{}
	if fmt.Sprint(again) != "[a b]" {
		t.Errorf("a later change is seen: %q", again)
	}
}
