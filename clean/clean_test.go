package clean

import (
	"fmt"
	"slices"
	"strings"
	"testing"

	"marginalia/api"
	"marginalia/samples"
	"marginalia/token"
	"marginalia/tree"
)

const base = "http://h/a/b?q"

func el(name string, kids ...api.Node) api.Node { return api.Node{Name: name, Kids: kids} }

func text(s string) api.Node { return api.Node{Text: s} }

// with attributes, names and values by turns.
func with(n api.Node, attrs ...string) api.Node {
	for i := 0; i < len(attrs); i += 2 {
		n.Attrs = append(n.Attrs, api.Attr{Name: attrs[i], Value: attrs[i+1]})
	}
	return n
}

func list(l ...api.Node) []api.Node { return l }

// show nodes, so that two trees that show the same are the same.
func show(l []api.Node) string {
	var out strings.Builder
	for _, n := range l {
		fmt.Fprintf(&out, "{%q %q %q %s}", n.Name, n.Attrs, n.Text, show(n.Kids))
	}
	return out.String()
}

// parsed markup, as chapters 2 and 3 make a tree of it.
func parsed(t *testing.T, s string) []api.Node {
	t.Helper()
	tokens, e := token.Read(s)
	l, f := tree.Build(tokens)
	if e != api.OK || f != api.OK {
		t.Fatalf("%q is not read: %d, %d", s, e, f)
	}
	return l
}

type htmlCase struct{ s, want string }

// testHtml: of s comes want, by Html and by Tree; want stays as it is; and s is clean just if its tree is that of want.
func testHtml(t *testing.T, base string, cases []htmlCase) {
	t.Helper()
	for _, c := range cases {
		if got, e := Html(base, c.s); got != c.want || e != api.OK {
			t.Errorf("of %q by %q: %q, %d; must be %q", c.s, base, got, e, c.want)
		}
		if got, e := Html(base, c.want); got != c.want || e != api.OK {
			t.Errorf("of %q by %q: %q, %d; must stay", c.want, base, got, e)
		}
		in, want := parsed(t, c.s), parsed(t, c.want)
		if got, e := Tree(base, in); show(got) != show(want) || e != api.OK {
			t.Errorf("of %s by %q: %s, %d; must be %s", show(in), base, show(got), e, show(want))
		}
		if clean, e := Is(want); !clean || e != api.OK {
			t.Errorf("is %q clean: %v, %d", c.want, clean, e)
		}
	}
}

func TestTheExampleE1E2E3(t *testing.T) {
	testHtml(t, "http://a/b", []htmlCase{
		{"<section><p onclick=x>a<script>b</script><a href=c>d</a>", `<p>a<a href="http://a/c">d</a></p>`},
	})
}

func TestAllowedE1(t *testing.T) {
	for _, name := range []string{"a", "b", "i", "em", "strong", "p", "ul", "ol", "li", "blockquote", "code"} {
		whole := "<" + name + ">x</" + name + ">"
		testHtml(t, base, []htmlCase{{whole, whole}, {"<" + name + " id=y class=z>x", whole}})
	}
	testHtml(t, base, []htmlCase{
		{"", ""},
		{"a &lt; b", "a &lt; b"},
		{"<br>a<hr>", "<br>a<hr>"},
		{"<br class=x><hr id=y>", "<br><hr>"},
		{"<ul><li>a<li><p>b<p>c", "<ul><li>a</li><li><p>b</p><p>c</p></li></ul>"},
	})
	for _, name := range []string{"section", "div", "span", "font", "h1", "pre", "table", "iframe", "object", "svg", "form", "input", "body", "u", "s", "x-y", "scripts", "aa", "image"} {
		testHtml(t, base, []htmlCase{
			{"<" + name + ">x</" + name + ">", "x"},
			{"<b><" + name + " href=y src=z title=w alt=v>x</" + name + "></b>", "<b>x</b>"},
		})
	}
}

func TestNotAllowedStaysE1(t *testing.T) {
	testHtml(t, base, []htmlCase{
		{"<x></x>", ""},
		{"a<x></x>b", "ab"},
		{"a<x>b</x>c", "abc"},
		{"a<x>b<y>c</y>d</x>e", "abcde"},
		{"a<x><b>c</b></x>d", "a<b>c</b>d"},
		{"a<x>b<b>c</b>d</x>e", "ab<b>c</b>de"},
		{"<b>a<x>c</x></b><x>d</x>e", "<b>ac</b>de"},
		{"<x><y><p>a<p>b</y><p>c", "<p>a</p><p>b</p><p>c</p>"},
		{"<ul><x><li>a<li>b", "<ul><li>a</li><li>b</li></ul>"},
		{"<x>&am</x>p;", "&amp;amp;"}, // one text, and not taken again
		{"<x>&lt;</x>p>", "&lt;p&gt;"},
	})
	deep := strings.Repeat("<x>", api.MaxDepth-1)
	testHtml(t, base, []htmlCase{{deep + "<b>a<i>c", "<b>ac</b>"}}) // the i did not come into the tree
}

func TestGoesWithAllE1(t *testing.T) {
	for _, name := range []string{"script", "style", "template"} {
		open, shut := "<"+name+">", "</"+name+">"
		testHtml(t, base, []htmlCase{
			{open + "a" + shut, ""},
			{"a" + open + "b" + shut + "c", "ac"},
			{open + "<p>a</p><b>c</b>" + shut + "d", "d"},
			{"<x>a" + open + "<x>b</x>" + shut + "c</x>d", "acd"},
			{"<b>" + open + "a" + shut + "</b>", "<b></b>"},
			{"a" + open + "b", "a"},
			{strings.ToUpper(open) + "a" + shut + "b", "b"},
			{open + open + "a" + shut + "b" + shut + "c", "c"},
			{"<p>" + open + "<p>a" + shut + "b", "<p></p><p>ab</p>"}, // the second p closes both; the end is none
		})
	}
}

func TestAttrsE1(t *testing.T) {
	testHtml(t, base, []htmlCase{
		{"<a title=t>x", `<a title="t">x</a>`},
		{"<a title=''>x", `<a title="">x</a>`},
		{"<a id=i title=t onclick=o href='http://q' style=s>x", `<a title="t" href="http://q">x</a>`},
		{"<a src='http://q' alt=y>x", "<a>x</a>"},
		{"<b href='http://q' title=t>x", "<b>x</b>"},
		{"<p src='http://q' alt=t>x", "<p>x</p>"},
		{"<img alt=a src='http://q'>", `<img alt="a" src="http://q">`},
		{"<img src='http://q' alt='&quot;'>", `<img src="http://q" alt="&quot;">`},
		{"<img src='http://q' href='http://r' title=t width=1>", `<img src="http://q">`},
		{"<img>", ""},
		{"<img alt=a>", ""},
		{"<img href='http://q'>", ""},
		{"a<img>b", "ab"},
		{"a<img src='javascript:x'>b<x>c</x>", "abc"},
	})
}

func TestLinksE1(t *testing.T) {
	testHtml(t, base, []htmlCase{
		{"<a href=c>x", `<a href="http://h/a/c">x</a>`},
		{"<a href=''>x", `<a href="http://h/a/b?q">x</a>`},
		{"<a href='?r'>x", `<a href="http://h/a/b?r">x</a>`},
		{"<a href='../../c/./d'>x", `<a href="http://h/c/d">x</a>`},
		{"<a href='//i/c/../d'>x", `<a href="http://i/d">x</a>`},
		{"<a href='HTTPS://i/./c'>x", `<a href="HTTPS://i/c">x</a>`},
		{"<a href='mailto:x@y'>x", `<a href="mailto:x@y">x</a>`},
		{"<a href='javascript:x' title=t>x", `<a title="t">x</a>`},
		{"<a href='data:x'>x", "<a>x</a>"},
		{"<a href='ftp://i'>x", "<a>x</a>"},
		{"<a href='java&#9;script:x'>x", "<a href=\"http://h/a/java\tscript:x\">x</a>"}, // no scheme: a path
		{"<img src=c>", `<img src="http://h/a/c">`},
		{"<img src='data:x'>", ""},
		{"<a href='http:/.//x'>y", `<a href="http:/.//x">y</a>`}, // Resolve has an error
		{"<a href='mailto:/..//x'>y", `<a href="mailto:/..//x">y</a>`},
		{"<a href='data:/.//x'>y", "<a>y</a>"},
	})
	testHtml(t, "ftp://h/a", []htmlCase{
		{"<a href=c>x</a><img src=d>", "<a>x</a>"},
		{"<a href='http://q/../r'>x</a>", `<a href="http://q/r">x</a>`},
	})
}

func TestLinksWithoutBaseE1(t *testing.T) {
	for _, base := range []string{"", "x", "/a/b", "//h", "1:x", " http://h"} {
		testHtml(t, base, []htmlCase{
			{"<a href=c>x", "<a>x</a>"},
			{"<a href='//i'>x", "<a>x</a>"},
			{"<a href='http://i/./c/../d'>x", `<a href="http://i/./c/../d">x</a>`}, // as it is
			{"<a href=' h&#10;ttp:c'>x", "<a href=\" h\nttp:c\">x</a>"},
			{"<a href='java&#10;script:c'>x", "<a>x</a>"},
			{"<img src=c>", ""},
			{"<img src='https:c'>", `<img src="https:c">`},
		})
	}
}

func TestLongLinksE1E2(t *testing.T) {
	link := func(n int) string { return "http:" + strings.Repeat("a", n-5) }
	far := "http://h/" + strings.Repeat("b/", 1490)
	for _, c := range []struct {
		base, href, want string
	}{
		{"", link(api.MaxText), link(api.MaxText)},
		{"", link(api.MaxText + 1), ""},
		{base, link(api.MaxText), link(api.MaxText)},
		{base, link(api.MaxText + 1), ""},
		{base, strings.Repeat("a", api.MaxText-len("http://h/a/")), "http://h/a/" + strings.Repeat("a", api.MaxText-len("http://h/a/"))},
		{base, strings.Repeat("a", api.MaxText-len("http://h/a/")+1), ""},
		{far, strings.Repeat("a", api.MaxText-len(far)), far + strings.Repeat("a", api.MaxText-len(far))},
		{far, strings.Repeat("a", api.MaxText-len(far)+1), ""},
		{far, strings.Repeat("../", 200) + "a", "http://h/" + strings.Repeat("b/", 1290) + "a"},
	} {
		want := el("a")
		if c.want != "" {
			want = with(want, "href", c.want)
		}
		l := list(with(el("a"), "href", c.href))
		if got, e := Tree(c.base, l); show(got) != show(list(want)) || e != api.OK {
			t.Errorf("a link of %d bytes: %.80s, %d; must be %.80s", len(c.href), show(got), e, c.want)
		}
		img := list(with(el("img"), "src", c.href))
		if got, e := Tree(c.base, img); (len(got) == 1) != (c.want != "") || e != api.OK {
			t.Errorf("an img with %d bytes: %.80s, %d", len(c.href), show(got), e)
		}
		clean, e := Is(l)
		if clean != (c.href == c.want) || e != api.OK {
			t.Errorf("is a link of %d bytes clean: %v, %d", len(c.href), clean, e)
		}
	}
}

func TestTreeErrorsE1(t *testing.T) {
	long := strings.Repeat("a", api.MaxText+1)
	if l, e := Tree(long[1:], list(text("a"))); show(l) != show(list(text("a"))) || e != api.OK {
		t.Errorf("a base of %d bytes: %s, %d", api.MaxText, show(l), e)
	}
	for _, c := range []struct {
		l    []api.Node
		want api.Errno
	}{
		{list(text("")), api.ErrForm},
		{list(el("P")), api.ErrForm},
		{list(el("br", text("a"))), api.ErrForm},
		{list(with(el("x"), "a", "", "a", "")), api.ErrTwice},
		{list(text("a"), text("b")), api.ErrState},
		{list(el("p", el("p"))), api.ErrState},
		{list(el("script", el("p", el("p")))), api.ErrState}, // what goes must be right too
		{slices.Repeat(list(el("x")), api.MaxText+1), api.ErrMany},
	} {
		if l, e := Tree(base, c.l); len(l) != 0 || e != c.want {
			t.Errorf("of %.80s: %.80s, %d; must be %d", show(c.l), show(l), e, c.want)
		}
		if l, e := Tree(long, c.l); len(l) != 0 || e != c.want {
			t.Errorf("of %.80s by a long base: %d; must be %d, which is named first", show(c.l), e, c.want)
		}
		if clean, e := Is(c.l); clean || e != c.want {
			t.Errorf("is %.80s clean: %v, %d; must be %d", show(c.l), clean, e, c.want)
		}
	}
	if l, e := Tree(long, list(text("a"))); len(l) != 0 || e != api.ErrMany {
		t.Errorf("by a long base: %s, %d", show(l), e)
	}
}

func TestIsE2(t *testing.T) {
	for _, c := range []struct {
		s    string
		want bool
	}{
		{"", true},
		{"a", true},
		{"<ul><li><p>a<b>c</b><i>d<em>e<strong>f<code>g", true},
		{"<blockquote>a<br><hr></blockquote><ol></ol>", true},
		{"<a>x", true},
		{"<a href='http:x' title=y>x", true},
		{"<a href='HTTPS:x'>x", true},
		{"<a href=' ma&#10;ilto:x'>x", true},
		{"<img src='http:x'>", true},
		{"<img alt=y src='http:x'>", true},
		{"<x>", false},
		{"<script>", false},
		{"<b><i><x>", false},
		{"<p>a</p><h1>b</h1>", false},
		{"<b title=x>", false},
		{"<b href='http:x'>", false},
		{"<a alt=x>", false},
		{"<a src='http:x'>", false},
		{"<a href=x>", false},
		{"<a href=''>", false},
		{"<a href='//h'>", false},
		{"<a href='javascript:x'>", false},
		{"<a title=t href='data:x'>", false},
		{"<img>", false},
		{"<img alt=x>", false},
		{"<img src=x>", false},
		{"<img src='ftp:x'>", false},
		{"<img src='http:x' title=y>", false},
		{"<p>a<img alt=x>", false},
	} {
		if clean, e := Is(parsed(t, c.s)); clean != c.want || e != api.OK {
			t.Errorf("is %q clean: %v, %d", c.s, clean, e)
		}
	}
}

func TestHtmlLongE2(t *testing.T) {
	long := strings.Repeat("a", api.MaxText+1)
	for _, c := range [][2]string{{long, "a"}, {base, long}, {long, long}, {long, ""}} {
		if s, e := Html(c[0], c[1]); s != "" || e != api.ErrMany {
			t.Errorf("by %d bytes of %d: %q, %d", len(c[0]), len(c[1]), s, e)
		}
	}
	if s, e := Html(long[1:], long[1:]); s != long[1:] || e != api.OK {
		t.Errorf("of %d bytes: %d bytes, %d", api.MaxText, len(s), e)
	}
	signs := strings.Repeat("&", api.MaxText)
	if s, e := Html("", signs); s != strings.Repeat("&amp;", api.MaxText) || e != api.OK {
		t.Errorf("of %d signs: %d bytes, %d", api.MaxText, len(s), e)
	}
	tags := strings.Repeat("<p>a", api.MaxText/4)
	if s, e := Html("", tags); s != strings.Repeat("<p>a</p>", api.MaxText/4) || e != api.OK {
		t.Errorf("of %d tags: %d bytes, %d", api.MaxText/4, len(s), e)
	}
}

// Whatever is cleaned is right and clean, and stays as it is: read again, and cleaned again, and by no base too.
func TestCleanForGoodE3P1P3(t *testing.T) {
	pieces := []string{"<p>", "<ul>", "<li>", "<x>", "</x>", "<script>", "</script>", "<b>", "</b>", "a", "&lt;", "<img src=y>", "<img>", "<a href='z:'>"}
	samples.Each(pieces, 4, func(s string) { testAgain(t, base, s) })
	deep := strings.Repeat("<x>", api.MaxDepth-2)
	samples.Each(pieces, 3, func(s string) { testAgain(t, base, deep+s) })
}

func TestLinksForGoodE3P1P3(t *testing.T) {
	signs := []string{"http:", "x:", "/", "..", ".", "a", "?", "#", "&#10;", "//", ":"}
	for _, base := range []string{"", base, "http:", "http:a/../b", "https://h", "mailto:/.//x", "data:x"} {
		samples.Each(signs, 4, func(s string) { testAgain(t, base, "<a href='"+s+"'><img src='"+s+"'></a>") })
	}
}

func testAgain(t *testing.T, base, s string) {
	t.Helper()
	out, e := Html(base, s)
	if e != api.OK {
		t.Fatalf("of %q by %q: %d", s, base, e)
	}
	l := parsed(t, out)
	cleaned, e := Tree(base, parsed(t, s))
	if e != api.OK || show(l) != show(cleaned) {
		t.Fatalf("of %q by %q: %s, but read again %s", s, base, show(cleaned), show(l))
	}
	if clean, e := Is(l); !clean || e != api.OK {
		t.Fatalf("of %q by %q: %q, is that clean: %v, %d", s, base, out, clean, e)
	}
	for _, b := range []string{base, ""} {
		if again, e := Html(b, out); again != out || e != api.OK {
			t.Fatalf("of %q by %q: %q; again by %q: %q, %d", s, base, out, b, again, e)
		}
	}
}

// A tree is clean just if cleaning it by no base leaves it as it is.
func TestIsWhatStaysE1E2(t *testing.T) {
	pieces := []string{"<p>", "<li>", "</p>", "<x>", "<style>", "a", "<img src='http:x'>", "<img alt=x>", "<a href='mailto:x'>", "<a href=y>", "<b title=z>", "<a title=z>"}
	count := [2]int{}
	samples.Each(pieces, 4, func(s string) {
		l := parsed(t, s)
		clean, e := Is(l)
		left, f := Tree("", l)
		if e != api.OK || f != api.OK || clean != (show(left) == show(l)) {
			t.Fatalf("is %q clean: %v; what is left is %s (%d, %d)", s, clean, show(left), e, f)
		}
		if clean {
			count[1]++
		} else {
			count[0]++
		}
	})
	if min(count[0], count[1]) < 100 {
		t.Errorf("not clean and clean: %v", count)
	}
}

// Lists that stand in themselves end too.
func TestEndsP1(t *testing.T) {
	round := list(el("x"))
	round[0].Kids = round
	if l, e := Tree(base, round); len(l) != 0 || e != api.ErrMany {
		t.Errorf("Tree: %d nodes, %d", len(l), e)
	}
	if clean, e := Is(round); clean || e != api.ErrMany {
		t.Errorf("Is: %v, %d", clean, e)
	}
}

func TestOnlyReadP2(t *testing.T) {
	attrs := []api.Attr{{Name: "id", Value: "1"}, {Name: "href", Value: "c"}, {Name: "title", Value: "2"}, {Name: "spare", Value: "3"}}
	kids := list(text("x"), el("script"), text("y"), el("spare"))
	in := list(api.Node{Name: "a", Attrs: attrs[:3], Kids: kids[:3]}, text("y"), el("spare"))
	look := func() string { return fmt.Sprint(attrs, kids, show(in)) }
	was := look()
	want := show(list(with(el("a", text("xy")), "href", "http://h/a/c", "title", "2"), text("y")))
	for range 2 {
		if l, e := Tree(base, in[:2]); show(l) != want || e != api.OK {
			t.Errorf("Tree is %s, %d", show(l), e)
		}
		if clean, e := Is(in[:2]); clean || e != api.OK {
			t.Errorf("Is: %v, %d", clean, e)
		}
	}
	if now := look(); now != was {
		t.Errorf("what was handed in was\n%s and is\n%s", was, now)
	}
}

func TestNoSharedListsP2(t *testing.T) {
	in := parsed(t, "<a href='http://q' title=t>x<b>y</b>z</a><x><i>u<em>v</em></i></x><ul><li>w</li></ul>")
	was := show(in)
	out, _ := Tree("", in)
	for len(out) > 0 {
		rest := show(out[1:])
		spoil(&out[0])
		if show(out[1:]) != rest || show(in) != was {
			t.Errorf("lists are shared: %s, %s", show(out[1:]), show(in))
		}
		out = out[1:]
	}
}

// spoil the lists of a node, and the room behind them.
func spoil(n *api.Node) {
	attrs := n.Attrs[:cap(n.Attrs)]
	for i := range attrs {
		attrs[i] = api.Attr{Name: "spoilt", Value: "spoilt"}
	}
	for i := range n.Kids {
		spoil(&n.Kids[i])
	}
	kids := n.Kids[:cap(n.Kids)]
	for i := range kids {
		kids[i] = text("spoilt")
	}
}
