package desk

// What the whole promises, one test for each of its lines, of texts that are drawn: whatever comes, through all layers up to the page.

import (
	"fmt"
	"strings"
	"testing"

	"marginalia/api"
	"marginalia/clean"
	"marginalia/date"
	"marginalia/escape"
	"marginalia/feed"
	"marginalia/find"
	"marginalia/report"
	"marginalia/shelf"
	"marginalia/token"
	"marginalia/tree"
	"marginalia/url"
	"marginalia/xml"
)

// pieces of markup, right and wrong.
const pieces = `<p>|</p>|<li>|</li>|<ul>|</ul>|<ol>|<blockquote>|</blockquote>|<br>|<hr>|<b>|</b>|<i>|</i>|<a href=|</a>|<img src=|<img alt="|<section>|</section>|<script>|</script>|<style>|<p onclick=|title='|"|'|=|>|<|/|<!--|-->|<!|<?|&|&amp;|&lt;|&lt|&#x41;|&#0;|&quot;|;|a|b|Z| |  |` + "\n|\t|\f|\x00|\xff|\u00e9|http://h/|https:|mailto:|javascript:|//h|../|./|..|.|?|#|:|x"

// strict pieces, of which documents are.
const strictPieces = `<x>|</x>|<x/>|<y a="b">|</y>|<y a='&lt;' b="c"/>|<![CDATA[|]]>|<!--|-->|<?|?>|a|b|&amp;|&lt;|&#65;|&|"|'| |` + "\n|\x00|\xff|\u00e9"

// text of up to so many pieces.
func (d *draw) text(of string, most int) string {
	l := strings.Split(of, "|")
	var out strings.Builder
	for range d.below(most + 1) {
		out.WriteString(l[d.below(len(l))])
	}
	return out.String()
}

func must[T any](answer T, e api.Errno) T {
	if e != api.OK {
		panic(fmt.Sprint("error ", e, " instead of ", answer))
	}
	return answer
}

// eachMarkup that is drawn goes to f.
func eachMarkup(n int, f func(s string)) {
	var d draw = 3
	for range n {
		f(d.text(pieces, 24))
	}
}

// shown: two that show the same are the same; whether an empty list is nil is not told.
func shown(x any) string { return fmt.Sprintf("%q", x) }

func TestWhatIsPutIsTakenWholeA2(t *testing.T) {
	eachMarkup(5000, func(s string) {
		put := must(escape.Put(s))
		if got := must(escape.Take(put)); got != s {
			t.Fatalf("%q is put as %q, and taken as %q", s, put, got)
		}
		if got, e := escape.Strict(put); got != s || e != api.OK {
			t.Fatalf("%q is put as %q, and strictly taken as %q, %d", s, put, got, e)
		}
	})
}

func TestWhatIsPrintedIsReadWholeB4F3G2(t *testing.T) {
	eachMarkup(5000, func(s string) {
		l := must(token.Read(s))
		if again := must(token.Read(must(token.Print(l)))); shown(l) != shown(again) {
			t.Fatalf("%q is %s, and then %s", s, shown(l), shown(again))
		}
	})
	var d draw = 4
	right := 0
	for range 5000 {
		s := "<r>" + d.text(strictPieces, 9) + "</r>"
		n, e := xml.Read(s)
		if e != api.OK {
			continue
		}
		right++
		if again := must(xml.Read(must(xml.Print(n)))); shown(n) != shown(again) {
			t.Fatalf("%q is %s, and then %s", s, shown(n), shown(again))
		}
	}
	if right < 500 {
		t.Errorf("%d documents are right", right)
	}
	for range 5000 {
		at := d.below(api.MaxAt + 1)
		if again := must(date.Web(must(date.Print(at)))); again != at {
			t.Fatalf("%d is %d", at, again)
		}
	}
}

func TestWhatIsBuiltIsRightWholeC3(t *testing.T) {
	eachMarkup(5000, func(s string) {
		l := must(tree.Build(must(token.Read(s))))
		if e := tree.Check(l); e != api.OK {
			t.Fatalf("%q is %s, of which Check is %d", s, shown(l), e)
		}
		if again := must(tree.Build(must(tree.Flat(l)))); shown(l) != shown(again) {
			t.Fatalf("%q is %s, and then %s", s, shown(l), shown(again))
		}
	})
}

func TestWhatIsSplitIsJoinedWholeD4(t *testing.T) {
	eachMarkup(5000, func(s string) {
		if again := must(url.Join(must(url.Split(s)))); again != s {
			t.Fatalf("%q is %q", s, again)
		}
		path := must(url.Dots(s))
		if again := must(url.Dots(path)); again != path {
			t.Fatalf("%q has %q without dots, and then %q", s, path, again)
		}
	})
}

func TestCleanForGoodWholeE3(t *testing.T) {
	eachMarkup(3000, func(s string) {
		for _, base := range []string{"", "http://h/p/q", "mailto:m", "no"} {
			once := must(clean.Html(base, s))
			if again := must(clean.Html(base, once)); again != once {
				t.Fatalf("%q by %q is %q, and then %q", s, base, once, again)
			}
			l := must(tree.Build(must(token.Read(once))))
			if !must(clean.Is(l)) {
				t.Fatalf("%q by %q is %q, which is not clean", s, base, once)
			}
		}
	})
}

// element of a feed whose texts are drawn, of that name, its id in a child of that title; or something else.
func (d *draw) element(name, id string) string {
	if d.below(5) == 0 {
		return d.text(strictPieces, 3)
	}
	var out strings.Builder
	for _, part := range []string{"title", "link", id, "pubDate", "updated", "description", "content", "summary"} {
		text := d.text(pieces, 8)
		switch {
		case part == id && d.below(4) > 0:
			text = d.id()
		case part == "pubDate" && d.below(2) > 0:
			text = fmt.Sprintf("1 Jan 1970 00:00:0%d GMT", d.below(10))
		case part == "updated" && d.below(2) > 0:
			text = fmt.Sprintf("1970-01-01T00:00:0%dZ", d.below(10))
		case part == "link" && d.below(2) > 0:
			text = "http://h/" + text
		}
		text = must(escape.Put(text))
		if d.below(4) > 0 {
			fmt.Fprintf(&out, `<%s href="%s">%s</%s>`, part, text, text, part)
		}
	}
	return "<" + name + ">" + out.String() + "</" + name + ">"
}

// wildFeed that comes from anywhere.
func (d *draw) wildFeed() api.Act {
	root, end, name, id := "<rss><channel>", "</channel></rss>", "item", "guid"
	if d.below(2) == 0 {
		root, end, name, id = "<feed>", "</feed>", "entry", "id"
	}
	bases := []string{"http://h/p/q", "https://k", "", "no"}
	text := root
	for range d.below(4) {
		text += d.element(name, id)
	}
	return api.Act{Kind: api.ActFeed, Text: text + end, Base: bases[d.below(len(bases))]}
}

func TestFeedsAreRightWholeH3(t *testing.T) {
	var d draw = 6
	count := map[api.Errno]int{}
	for range 5000 {
		a := d.wildFeed()
		l, e := feed.Read(a.Base, a.Text)
		met := map[string]bool{}
		for _, x := range l {
			if f := feed.Check(x); f != api.OK || met[x.Id] {
				t.Fatalf("%s has %s, which is %d, its id there before: %v", shown(a), shown(x), f, met[x.Id])
			}
			met[x.Id] = true
			count[e]++
		}
		if len(l) > api.MaxEntries || e != api.OK && len(l) > 0 {
			t.Fatalf("%s: %d entries, %d", shown(a), len(l), e)
		}
	}
	if len(count) != 1 || count[api.OK] < 1000 {
		t.Errorf("entries of each error: %v", count)
	}
}

func TestThereOnceWholeI3(t *testing.T) {
	var d draw = 8
	s := api.Shelf{}
	for range 1000 {
		a := d.wildFeed()
		l, e := feed.Read(a.Base, a.Text)
		if e != api.OK {
			continue
		}
		for range 3 {
			s, _, e = shelf.Put(s, l)
			met := map[string]bool{}
			for _, x := range s.Entries {
				if met[x.Id] || e != api.OK {
					t.Fatalf("%q is there again, %d: %s", x.Id, e, show(s))
				}
				met[x.Id] = true
			}
		}
	}
	if len(s.Entries) != api.MaxShelf {
		t.Errorf("%d entries are there", len(s.Entries))
	}
}

// Plain words, and the same ones marked at drawn places, have the same words in them.
func TestMarkedAsPlainWholeJ2(t *testing.T) {
	var d draw = 10
	marks := [][2]string{{"<b>", "</b>"}, {"<i>", "</i>"}, {"<em>", "</em>"}, {"<strong>", "</strong>"}, {"<code>", "</code>"}, {`<a href="http://x">`, "</a>"}}
	around := [][2]string{{"", ""}, {"<p>", "</p>"}, {"<ul><li>", "</li></ul>"}, {"<ol><li>", "</li></ol>"}, {"<blockquote><p>", "</p></blockquote>"}}
	for range 3000 {
		plain := strings.TrimSpace(d.text("one|two|A|b| and | ", 6))
		i := d.below(len(plain) + 1)
		j := i + d.below(len(plain)+1-i)
		m, block := marks[d.below(len(marks))], around[d.below(len(around))]
		marked := block[0] + plain[:i] + m[0] + plain[i:j] + m[1] + plain[j:] + block[1]
		for _, word := range []string{"one", "TWO", "a", "ab", "onetwo", "e t", "b and one", plain, plain[i:j]} {
			if word == "" || len(word) > api.MaxId {
				continue
			}
			was := must(find.Has(api.Entry{Id: "i", Html: plain}, word))
			if is := must(find.Has(api.Entry{Id: "i", Html: marked}, word)); is != was {
				t.Fatalf("%q in %q: %v; in %q: %v", word, plain, was, marked, is)
			}
		}
	}
}

// testPageOf a shelf: it is clean, if it is short enough to be read; if not, it is line by line.
func testPageOf(t *testing.T, s api.Shelf) bool {
	t.Helper()
	page := must(report.Page(s))
	lines := ""
	for _, x := range s.Entries {
		line := must(report.Line(x))
		lines += line
		alone := "<ul>" + line + "</ul>"
		if got, e := clean.Html("", alone); len(alone) <= api.MaxText && (got != alone || e != api.OK) {
			t.Fatalf("%q is as Html %q, %d", alone, got, e)
		}
	}
	if page != "<ul>"+lines+"</ul>" {
		t.Fatalf("the page of %s is %q", show(s), page)
	}
	if len(page) > api.MaxText {
		return false
	}
	if got, e := clean.Html("", page); got != page || e != api.OK {
		t.Fatalf("%q is as Html %q, %d", page, got, e)
	}
	return true
}

// Whatever feeds come, in whatever script: the shelf is right at every step, a page of it is clean, and a feed that comes again changes nothing.
func TestFromFeedsToPagesWholeK2L3(t *testing.T) {
	var d draw = 12
	whole := 0
	for range 300 {
		var l []api.Act
		s := api.Shelf{}
		for range api.MaxScript {
			a := d.wildFeed()
			if d.below(3) == 0 {
				a = act(d.word())
			}
			l = append(l, a)
			x, n, e := Step(s, a)
			if e != api.OK {
				continue
			}
			if f := shelf.Check(x); f != api.OK {
				t.Fatalf("%s of %s: %s, of which Check is %d", shown(a), show(s), show(x), f)
			}
			if again, k, f := Step(x, a); a.Kind == api.ActFeed && (show(again) != show(x) || k != 0 || f != api.OK) {
				t.Fatalf("%s of %s: %s, %d; again: %s, %d, %d", shown(a), show(s), show(x), n, show(again), k, f)
			}
			s = x
			if testPageOf(t, s) && len(s.Entries) > 0 {
				whole++
			}
		}
		if x, told, e := Run(l); show(x) != show(s) || len(told) != len(l) || e != api.OK {
			t.Fatalf("Run: %s, %v, %d; must be %s", show(x), told, e, show(s))
		}
	}
	if whole < 500 {
		t.Errorf("%d pages are short enough to be read", whole)
	}
}
