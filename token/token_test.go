package token

import (
	"fmt"
	"slices"
	"strings"
	"testing"

	"marginalia/api"
	"marginalia/samples"
)

func text(s string) api.Token { return api.Token{Kind: api.TokenText, Text: s} }

func shut(name string) api.Token { return api.Token{Kind: api.TokenClose, Name: name} }

// open tag with names and values of attributes by turns.
func open(name string, attrs ...string) api.Token {
	t := api.Token{Kind: api.TokenOpen, Name: name}
	for i := 0; i < len(attrs); i += 2 {
		t.Attrs = append(t.Attrs, api.Attr{Name: attrs[i], Value: attrs[i+1]})
	}
	return t
}

func list(l ...api.Token) []api.Token { return l }

// show tokens so that two lists that show the same are the same.
func show(l []api.Token) string {
	out := "["
	for _, t := range l {
		out += fmt.Sprintf(" {%d %q %q %q}", t.Kind, t.Name, t.Attrs, t.Text)
	}
	return out + " ]"
}

type readCase struct {
	s    string
	want []api.Token
}

func testRead(t *testing.T, cases []readCase) {
	t.Helper()
	for _, c := range cases {
		if got, e := Read(c.s); show(got) != show(c.want) || e != api.OK {
			t.Errorf("Read(%q) = %s, %d; must be %s", c.s, show(got), e, show(c.want))
		}
	}
}

func TestReadTagsB1(t *testing.T) {
	testRead(t, []readCase{
		{"", nil},
		{"<p>", list(open("p"))},
		{"<P>x</P>", list(open("p"), text("x"), shut("p"))},
		{"<p/>", list(open("p"))},
		{"<p/ / >", list(open("p"))},
		{"<p\t>", list(open("p"))},
		{"<p\n>", list(open("p"))},
		{"<p\f>", list(open("p"))},
		{"<p\r>", list(open("p"))},
		{"<p\v>", nil}, // 11 is no white byte, and so in the name
		{"<h1><x-y>", list(open("h1"), open("x-y"))},
		{"</p>", list(shut("p"))},
		{"</p >", list(shut("p"))},
		{"</p/>", list(shut("p"))},
		{"</p a=\">\">", list(shut("p"), text("\">"))},
		{"</p <b>c", list(shut("p"), text("c"))},
		{"<p></p>", list(open("p"), shut("p"))},
		{"a<p>b</p>c", list(text("a"), open("p"), text("b"), shut("p"), text("c"))},
	})
}

func TestReadNamesB1(t *testing.T) {
	long := strings.Repeat("a", 20)
	testRead(t, []readCase{
		{"<" + long + ">", list(open(long))},
		{"</" + long + ">", list(shut(long))},
		{"<" + long + "a>", nil},
		{"</" + long + "a>", nil},
		{"a<svg:x b=c>d</svg:x>e", list(text("ade"))},
		{"a<b_>c", list(text("ac"))},
		{"<p<b>c", list(text("c"))},
		{"<p=a>c", list(text("c"))},
		{"<p\xc3\xa4>c", list(text("c"))},
		{"<x:y a='>'>b", list(text("b"))}, // all of the tag is the comment
		{"<x:y a='>b", list(text("<x:y a='>b"))},
		{"</x:y", list(text("</x:y"))},
		{"<\u212A>", list(text("<\u212A>"))}, // a letter elsewhere, not here
		{"<a\u212A>", nil},
	})
}

func TestReadCommentsB1(t *testing.T) {
	testRead(t, []readCase{
		{"<!-- a -->", nil},
		{"<!-->a", list(text("a"))},
		{"<!--->a", list(text("a"))},
		{"<!---->a-->", list(text("a-->"))},
		{"<!-- > <p> -- > --!> -->a", list(text("a"))},
		{"<!-a>b-->c", list(text("b-->c"))},
		{"<!- ->a", list(text("a"))},
		{"<!doctype html>a", list(text("a"))},
		{"<!>a", list(text("a"))},
		{"<!doctype \">\">a", list(text("\">a"))},
		{"<?xml a?>b", list(text("b"))},
		{"<?>a?>b", list(text("a?>b"))},
		{"</>a", list(text("a"))},
		{"</ p>a", list(text("a"))},
		{"</1>a", list(text("a"))},
		{"<//p>a", list(text("a"))},
	})
}

func TestReadTextB1(t *testing.T) {
	testRead(t, []readCase{
		{"a", list(text("a"))},
		{" \n", list(text(" \n"))},
		{"\xff\x00", list(text("\xff\x00"))},
		{"<", list(text("<"))},
		{"<>", list(text("<>"))},
		{"< p>", list(text("< p>"))},
		{"<1>", list(text("<1>"))},
		{"<<p>", list(text("<"), open("p"))},
		{"a < b > c", list(text("a < b > c"))},
		{"&lt;p&gt;&nbsp;&#65;", list(text("<p>&nbsp;A"))},
		{"&#0;", list(text("\uFFFD"))},
		{"a<!-- b -->c", list(text("ac"))},
		{"a<?b?><!c></ d>e", list(text("ae"))},
		{"&am<!-->p;", list(text("&"))}, // one text first, then taken
		{"&amp;<!-->lt;", list(text("&lt;"))},
		{"<<!-->p>", list(text("<p>"))}, // text stays text
		{"<p><!-- a --></p>", list(open("p"), shut("p"))},
		{"a<!-- b --><p><!-- c -->d", list(text("a"), open("p"), text("d"))},
	})
}

func TestReadNoEndB1(t *testing.T) {
	for _, s := range []string{
		"<p", "<p ", "<p/", "<p a", "<p a ", "<p a=", "<p a= ", "<p a=b", "<p a='", "<p a='b", "<p a='b'", `<p a="b'>`, "<p =",
		"<p a='><b>c</b>", "</", "</p", "</p ", "<!", "<!-", "<!--", "<!--a", "<!--a>b--", "<?", "<?a", "<1", "<!-- <p> >",
	} {
		testRead(t, []readCase{
			{s, list(text(s))},
			{"a" + s, list(text("a" + s))},
			{"<b>" + s, list(open("b"), text(s))},
			{"a<!-->" + s + "&amp;", list(text("a" + s + "&"))},
		})
	}
}

func TestReadLongB1(t *testing.T) {
	s := strings.Repeat("a", api.MaxText)
	testRead(t, []readCase{{s, list(text(s))}})
	if l, e := Read(s + "a"); len(l) != 0 || e != api.ErrMany {
		t.Errorf("of %d bytes: %s, %d", len(s)+1, show(l), e)
	}
	l, e := Read(strings.Repeat("<a>", api.MaxText/3))
	if len(l) != api.MaxText/3 || e != api.OK {
		t.Errorf("%d tags, %d", len(l), e)
	}
}

func TestReadAttrsB2(t *testing.T) {
	testRead(t, []readCase{
		{"<p a>", list(open("p", "a", ""))},
		{"<p a b>", list(open("p", "a", "", "b", ""))},
		{"<p a=b>", list(open("p", "a", "b"))},
		{"<p A=B>", list(open("p", "a", "B"))},
		{"<p a = b>", list(open("p", "a", "b"))},
		{"<p\ta\n=\f'b'\r>", list(open("p", "a", "b"))},
		{"<p a=\"b c\" d='e f'>", list(open("p", "a", "b c", "d", "e f"))},
		{"<p a=\"'\" b='\"'>", list(open("p", "a", "'", "b", "\""))},
		{"<p a='' b=\"\">", list(open("p", "a", "", "b", ""))},
		{"<p a='b'c=d>", list(open("p", "a", "b", "c", "d"))},
		{"<p a='>'>b", list(open("p", "a", ">"), text("b"))},
		{"<p a=<b>c", list(open("p", "a", "<b"), text("c"))},
		{"<p a=>b", list(open("p", "a", ""), text("b"))},
		{"<p a= >b", list(open("p", "a", ""), text("b"))},
		{"<p a=b'c\"d>", list(open("p", "a", "b'c\"d"))},
		{"<p a=b=c>", list(open("p", "a", "b=c"))},
		{"<p a==b>", list(open("p", "a", "=b"))},
		{"<p a=b/>", list(open("p", "a", "b/"))},
		{"<p a=/b c>", list(open("p", "a", "/b", "c", ""))},
		{"<p/a/b=c>", list(open("p", "a", "", "b", "c"))},
		{"<p a/=b c>", list(open("p", "a", "", "c", ""))},
		{"<p a / = b>", list(open("p", "a", "", "b", ""))}, // the = is a name of its own
		{"<p a=&lt;&#65; b='&quot;' c=\"&x;\">", list(open("p", "a", "<A", "b", "\"", "c", "&x;"))},
		{"<p a='&apos;>'>", list(open("p", "a", "'>"))},
	})
}

func TestReadAttrsThatAreNoneB2(t *testing.T) {
	long := strings.Repeat("a", 20)
	testRead(t, []readCase{
		{"<p a=1 a=2 b A='3'>", list(open("p", "a", "1", "b", ""))},
		{"<p a a=1>", list(open("p", "a", ""))},
		{"<p =x=y z>", list(open("p", "z", ""))},
		{"<p == z>", list(open("p"))}, // the name is =, and z its value
		{"<p =>", list(open("p"))},
		{"<p 1=2 -a x:y='>' a_ b-1=c>", list(open("p", "b-1", "c"))},
		{"<p 'a'>", list(open("p"))},
		{"<p \"a>b\">", list(open("p"), text("b\">"))},
		{"<p " + long + "=1 " + long + "a=2>", list(open("p", long, "1"))},
		{"<p \u212A=1 a\xff=2>", list(open("p"))},
		{"<p a<b=c>", list(open("p"))},
	})
}

func TestCheckB3(t *testing.T) {
	attr := []api.Attr{{Name: "a"}}
	long := strings.Repeat("a", 20)
	for _, c := range []struct {
		l    []api.Token
		want api.Errno
	}{
		{nil, api.OK},
		{list(), api.OK},
		{list(open("p", "a", "", "b", "<\x00"), text(" "), shut("p"), shut("p")), api.OK},
		{list(open(long, long, "")), api.OK},
		{list(open("p-", "a-1", "")), api.OK},
		{list(api.Token{Kind: api.TokenText, Text: "t", Attrs: []api.Attr{}}), api.OK},
		{list(api.Token{Kind: api.TokenClose, Name: "p", Attrs: []api.Attr{}}), api.OK},
		{list(text("a"), open("p"), text("b")), api.OK},
		{list(api.Token{}), api.ErrKind},
		{list(api.Token{Kind: 4}), api.ErrKind},
		{list(api.Token{Kind: -1, Name: "P"}), api.ErrKind},
		{list(api.Token{Kind: -1 << 63, Text: "t", Attrs: attr}), api.ErrKind},
		{list(text("")), api.ErrForm},
		{list(api.Token{Kind: api.TokenText, Text: "t", Name: "p"}), api.ErrForm},
		{list(api.Token{Kind: api.TokenText, Text: "t", Attrs: attr}), api.ErrForm},
		{list(api.Token{Kind: api.TokenOpen, Name: "p", Text: "t"}), api.ErrForm},
		{list(api.Token{Kind: api.TokenClose, Name: "p", Text: "t"}), api.ErrForm},
		{list(api.Token{Kind: api.TokenClose, Name: "p", Attrs: attr}), api.ErrForm},
		{list(open("p", "a", "", "a", "")), api.ErrTwice},
		{list(open("p", "a", "1", "b", "", "a", "2")), api.ErrTwice},
		{list(open("p", "a", "", "a", "", "A", "")), api.ErrTwice},
		{list(open("p", "a", "", "A", "", "a", "")), api.ErrForm},
		{list(open("P", "a", "", "a", "")), api.ErrForm},
		{list(open("p", "a", ""), open("p", "a", "")), api.OK},
		{list(text("a"), text("b")), api.ErrState},
		{list(open("p"), text("a"), text("b"), shut("p")), api.ErrState},
		{list(text("a"), text("")), api.ErrForm},
		{list(text("a"), text("b"), api.Token{}), api.ErrState},
		{list(text("a"), api.Token{}, text("b"), text("c")), api.ErrKind},
		{list(shut(""), api.Token{}), api.ErrForm},
		{list(open("p", "a", "", "a", ""), shut("")), api.ErrTwice},
	} {
		if e := Check(c.l); e != c.want {
			t.Errorf("Check of %s is %d, must be %d", show(c.l), e, c.want)
		}
		if s, e := Print(c.l); e != c.want || e != api.OK && s != "" {
			t.Errorf("Print of %s is %q, %d; must be %d", show(c.l), s, e, c.want)
		}
	}
}

func TestCheckNamesB3(t *testing.T) {
	for _, name := range []string{"", "P", "pA", "1", "-", "-a", "a_", "a b", "a:b", "a>", "a=", "\xe4", "a\u00e4", strings.Repeat("a", 21)} {
		for _, l := range [][]api.Token{list(open(name)), list(shut(name)), list(open("p", name, "")), list(open("p", "a", "", name, ""))} {
			if e := Check(l); e != api.ErrForm {
				t.Errorf("Check of %s is %d", show(l), e)
			}
		}
	}
}

func TestCheckManyB3(t *testing.T) {
	l := slices.Repeat(list(shut("p")), api.MaxText)
	if e := Check(l); e != api.OK {
		t.Errorf("of %d tokens: %d", len(l), e)
	}
	l = append(l, api.Token{})
	if e := Check(l); e != api.ErrMany {
		t.Errorf("of %d tokens: %d", len(l), e)
	}
	if s, e := Print(l); s != "" || e != api.ErrMany {
		t.Errorf("%d tokens are printed: %d bytes, %d", len(l), len(s), e)
	}
}

func TestPrintB3(t *testing.T) {
	for _, c := range []struct {
		l    []api.Token
		want string
	}{
		{nil, ""},
		{list(open("p")), "<p>"},
		{list(shut("p")), "</p>"},
		{list(text("<&>\"'")), "&lt;&amp;&gt;&quot;'"},
		{list(open("p", "b", "", "a", "<&>\"' ")), `<p b="" a="&lt;&amp;&gt;&quot;' ">`},
		{list(open("br"), text("x"), shut("i")), "<br>x</i>"},
	} {
		if s, e := Print(c.l); s != c.want || e != api.OK {
			t.Errorf("Print of %s is %q, %d; must be %q", show(c.l), s, e, c.want)
		}
	}
}

// A text that is printed may be longer than one that may be read: Check has nothing against it.
func TestPrintLongB3(t *testing.T) {
	for _, n := range []int{api.MaxText, api.MaxText + 1, 2*api.MaxText + 1} {
		s := strings.Repeat("<", n-1) + "a"
		put := strings.Repeat("&lt;", n-1) + "a"
		if got, e := Print(list(text(s))); got != put || e != api.OK {
			t.Errorf("a text of %d bytes: %d bytes, %d", n, len(got), e)
		}
		if got, e := Print(list(open("p", "a", s))); got != `<p a="`+put+`">` || e != api.OK {
			t.Errorf("a value of %d bytes: %d bytes, %d", n, len(got), e)
		}
	}
}

func TestPrintedIsReadB4(t *testing.T) {
	for _, v := range []string{"", "x", " ", "'", "\"", "<p>", "</p>", "<!-- -->", "&", "&amp;", "&#65;", "\x00\xff", "=/>", "\t\n\f\r"} {
		l := list(open("p", "a", v, "b-1", "", "c", v), shut("p"))
		if v != "" {
			l = append(l, text(v), shut("b"), text(v))
		}
		s, e := Print(l)
		m, f := Read(s)
		if show(l) != show(m) || e != api.OK || f != api.OK {
			t.Errorf("%s is printed as %q (%d) and read as %s (%d)", show(l), s, e, show(m), f)
		}
	}
}

// Whatever is read is right, and so is what comes of it: P1, P3, B4.
func TestReadIsRightP1P3B4(t *testing.T) {
	signs := []string{"<", ">", "/", "!", "?", "--", "a", "B", "=", "'", "\"", " ", "&", "lt;", "1"}
	samples.Each(signs, 5, func(s string) {
		l, e := Read(s)
		if e != api.OK || Check(l) != api.OK {
			t.Fatalf("%q is read as %s, %d, which is %d", s, show(l), e, Check(l))
		}
		for _, x := range l {
			if x.Kind == api.TokenText && x.Text == "" {
				t.Fatalf("%q has an empty text: %s", s, show(l))
			}
		}
		p, e := Print(l)
		m, f := Read(p)
		if show(l) != show(m) || e != api.OK || f != api.OK {
			t.Fatalf("%q is read as %s, printed as %q, and read as %s", s, show(l), p, show(m))
		}
	})
}

func TestOnlyReadP2(t *testing.T) {
	room := []api.Attr{{Name: "b", Value: "<"}, {Name: "a", Value: "&"}, {Name: "spare", Value: "1"}}
	all := list(api.Token{Kind: api.TokenOpen, Name: "p", Attrs: room[:2]}, text("a<"), shut("spare"))
	was, wasRoom := show(all), fmt.Sprint(room)
	for range 2 {
		if e := Check(all[:2]); e != api.OK {
			t.Errorf("Check: %d", e)
		}
		if s, e := Print(all[:2]); s != `<p b="&lt;" a="&amp;">a&lt;` || e != api.OK {
			t.Errorf("Print: %q, %d", s, e)
		}
	}
	if show(all) != was || fmt.Sprint(room) != wasRoom {
		t.Errorf("what was handed in is now %s, %v", show(all), room)
	}
}

func TestNoSharedListsP2(t *testing.T) {
	const s = "<p a=1 b=2 c=3><i a=4 b=5 c=6><b>x"
	l, _ := Read(s)
	was := show(l)
	for i := range l {
		changed := append(l[i].Attrs, api.Attr{Name: "new"})
		for j := range changed {
			changed[j].Value = "changed"
		}
		m, _ := Read(s)
		if show(m) != was {
			t.Errorf("a change of an answer is seen in the next: %s", show(m))
		}
		if i+1 < len(l) && show(l[i+1:]) != show(m[i+1:]) {
			t.Errorf("a change of one list is seen in another: %s", show(l))
		}
		l = append(l, text("more"))[:len(l)]
	}
}
