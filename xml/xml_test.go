package xml

import (
	"fmt"
	"regexp"
	"slices"
	"strings"
	"testing"

	"marginalia/api"
	"marginalia/samples"
)

func el(name string, kids ...api.Node) api.Node { return api.Node{Name: name, Kids: kids} }

func text(s string) api.Node { return api.Node{Text: s} }

// with attributes, names and values by turns.
func with(n api.Node, attrs ...string) api.Node {
	for i := 0; i < len(attrs); i += 2 {
		n.Attrs = append(n.Attrs, api.Attr{Name: attrs[i], Value: attrs[i+1]})
	}
	return n
}

// deep: so many b in one another, and in the innermost one these.
func deep(n int, in ...api.Node) api.Node {
	for range n - 1 {
		in = []api.Node{el("b", in...)}
	}
	return el("b", in...)
}

// show a node, so that two that show the same are the same.
func show(n api.Node) string {
	var out strings.Builder
	fmt.Fprintf(&out, "{%q %q %q", n.Name, n.Attrs, n.Text)
	for _, kid := range n.Kids {
		out.WriteString(" " + show(kid))
	}
	return out.String() + "}"
}

type readCase struct {
	s    string
	want api.Node
}

func testRead(t *testing.T, cases []readCase) {
	t.Helper()
	for _, c := range cases {
		if got, e := Read(c.s); show(got) != show(c.want) || e != api.OK {
			t.Errorf("Read(%q) = %s, %d; must be %s", c.s, show(got), e, show(c.want))
		}
	}
}

// testWrong: each of these is answered by that error, and nothing else.
func testWrong(t *testing.T, want api.Errno, l ...string) {
	t.Helper()
	for _, s := range l {
		if got, e := Read(s); show(got) != show(api.Node{}) || e != want {
			t.Errorf("Read(%q) = %s, %d; must be %d", s, show(got), e, want)
		}
	}
}

func TestReadMiscF1(t *testing.T) {
	a := el("a")
	testRead(t, []readCase{
		{"<a/>", a},
		{" \t\r\n<a/>\n\r\t ", a},
		{"<?xml version='1.0'?>\n<a/>", a},
		{"<!-- b --><a/><!-- c -->", a},
		{"<?b?><!----> <?c?><a/> <?d?><!-- <e> --><!-- > -- -->", a},
		{"<!-->--><a/>", a}, // the first two - are those of its beginning alone
		{"<!--->--><a/>", a},
		{"<?>?><a/>", a},
		{"<??><a/>", a},
		{"<?<a>?><a/>", a},
	})
	testWrong(t, api.ErrForm,
		"", " ", "b", "b<a/>", "<a/>b", "<a/><b/>", "<a/></a>", "</a>", "<!-- b -->", "<?b?>", "&#32;<a/>", "<a/>&#32;", "\f<a/>", "\x00<a/>", "\xef\xbb\xbf<a/>",
		"<!--><a/>", "<!---><a/>", "<?><a/>", "<!-- <a/>", "<? <a/>", "<a/><!--", "<a/><!-- --", "<a/><!-->", "<a/><?", "<a/><? ?", "<a/><?>",
		"<!DOCTYPE a><a/>", "<![CDATA[]]><a/>", "<a/><![CDATA[b]]>", "<!- b -><a/>", "< !-- b --><a/>",
	)
}

func TestReadTagsF1(t *testing.T) {
	testRead(t, []readCase{
		{"<a></a>", el("a")},
		{"<a ></a>", el("a")},
		{"<a />", el("a")},
		{"<a\t\r\n />", el("a")},
		{"<a></a\t\r\n >", el("a")},
		{"<A></A>", el("A")},
		{"<a><b/></a>", el("a", el("b"))},
		{"<a><b></b><c/></a>", el("a", el("b"), el("c"))},
		{"<a><a><a/></a></a>", el("a", el("a", el("a")))},
		{"<p><p/><br>b</br></p>", el("p", el("p"), el("br", text("b")))},
		{"<li><li/></li>", el("li", el("li"))},
	})
	testWrong(t, api.ErrForm,
		"<", "<a", "<a ", "<a/", "<a>", "<a><", "<a></", "<a></a", "<a></a ", "<a></a/", "<a></a/>", "<a></a b>", "<a></ a>", "<a>< /a>", "<a></>", "< a/>", "<a/ >", "<a / >", "<a//>", "<a\f/>", "<a></a\f>",
		"<>", "</>", "<a><b/>", "<a><b></b>", "<a><></a>", "<a>< b/></a>", "<a><!b></a>", "<a><!DOCTYPE b></a>", "<a><1/></a>", "<a><a",
	)
}

func TestReadTitlesF1(t *testing.T) {
	long := strings.Repeat("a", 20)
	for _, title := range []string{"a", "Z", "_", "_1", "a-", "a.", "a:", "a_", "a9", "aZ", "x:y.z-1_", "__--..::", long} {
		testRead(t, []readCase{
			{"<" + title + "/>", el(title)},
			{"<" + title + "></" + title + ">", el(title)},
			{"<a " + title + "=''/>", with(el("a"), title, "")},
		})
	}
	for _, title := range []string{"", "1", "-", ".", ":", ":a", "-a", "1a", "a+", "a\x00", "a\xe4", "\u00e4", "a\u212A", "a\xff", "a\v", long + "a", long + "."} {
		testWrong(t, api.ErrForm, "<"+title+"/>", "<"+title+"></"+title+">", "<a "+title+"=''/>")
	}
}

func TestReadAttrsF1(t *testing.T) {
	b := with(el("a"), "b", "c")
	testRead(t, []readCase{
		{"<a b='c'/>", b},
		{`<a b="c"/>`, b},
		{"<a b='c'></a>", b},
		{"<a b='c' />", b},
		{"<a b='c' ></a>", b},
		{"<a\t\n\r b\t\n\r =\t\n\r 'c'\t\n\r />", b},
		{"<a b='' c=\"\"/>", with(el("a"), "b", "", "c", "")},
		{"<a c='1' b='2' B='3'/>", with(el("a"), "c", "1", "b", "2", "B", "3")},
		{"<a b='\"' c=\"'\"/>", with(el("a"), "b", "\"", "c", "'")},
		{"<a b='>' c='/>' d=' e=f '/>", with(el("a"), "b", ">", "c", "/>", "d", " e=f ")},
		{"<a b='&lt;&amp;&apos;&quot;&#65;&#x42;'/>", with(el("a"), "b", "<&'\"AB")},
		{"<a b='\t\n\r\x00\xff]]>-->?>'/>", with(el("a"), "b", "\t\n\r\x00\xff]]>-->?>")},
		{"<a b='1'><c b='2'/></a>", with(el("a", with(el("c"), "b", "2")), "b", "1")},
	})
	testWrong(t, api.ErrForm,
		"<a b/>", "<a b=/>", "<a b=c/>", "<a b='c/>", "<a b=\"c'/>", "<a b='c\"/>", "<a b='c'd='e'/>", "<a b='c'/ >", "<ab='c'/>", "<a'b'/>", "<a ='c'/>", "<a 'c'/>", "<a b=='c'/>", "<a b='c'=/>", "<a b 'c'/>",
		"<a b='<'/>", "<a b='&lt;<'/>", "<a b='&'/>", "<a b='&no;'/>", "<a b='&lt'/>", "<a b='&#0;'/>", "<a b='&#xD800;'/>", "<a b\f='c'/>", "<a b=\f'c'/>", "<a\fb='c'/>", "<a b='c'", "<a b='c", "<a b='", "<a b=", "<a b", "<a b='c'>",
	)
}

func TestReadTwiceF1(t *testing.T) {
	testWrong(t, api.ErrTwice,
		"<a b='1' b='2'/>", "<a b='1' c='' b='1'/>", "<a b='' b=\"\"></a>", "<c><a b='1' b='2'/></c>", "<a b='1' b='2' b='<'/>", "<a b='1' b='2'", "<a b='1' b='2'c/>", "<a b='1' b='2'></c>", "<a b='1' b='2'>&no;", "<a b='1' b='2'/>c",
	)
	testWrong(t, api.ErrForm, // of one attribute its form is told first
		"<a b='1' b='<'/>", "<a b='1' b='&no;'/>", "<a b='1' b=2/>", "<a b='1' b/>", "<a b='1'b='2'/>", "<a b='1' c=3 b='2'/>", "<a b='&' b='2'/>", "<a b='1' b='2/>",
	)
}

func TestReadTextsF1(t *testing.T) {
	testRead(t, []readCase{
		{"<a>b</a>", el("a", text("b"))},
		{"<a> </a>", el("a", text(" "))},
		{"<a>\r\n\t\x00\xff</a>", el("a", text("\r\n\t\x00\xff"))},
		{"<a>b<c/>d</a>", el("a", text("b"), el("c"), text("d"))},
		{"<a><c>b</c>d</a>", el("a", el("c", text("b")), text("d"))},
		{"<a>&lt;b&gt;&amp;&apos;&quot;&#65;&#x20ac;</a>", el("a", text("<b>&'\"A\u20ac"))},
		{"<a>&amp;lt;</a>", el("a", text("&lt;"))},
		{"<a>>]]>\"'=/</a>", el("a", text(">]]>\"'=/"))},
		{"<a><!-- b --></a>", el("a")},
		{"<a><?b?></a>", el("a")},
		{"<a>b<!-- c -->d<?e?>f</a>", el("a", text("bdf"))},
		{"<a>b<!-- </a> -->c<?</a>?></a>", el("a", text("bc"))},
		{"<a>b<!-->-->c<?>?>d</a>", el("a", text("bcd"))},
		{"<a>b<c/><!-- d -->e<?f?><c/><!-- d --></a>", el("a", text("b"), el("c"), text("e"), el("c"))},
	})
	testWrong(t, api.ErrForm,
		"<a>&</a>", "<a>&no;</a>", "<a>&lt</a>", "<a>&#0;</a>", "<a>&#xD800;</a>", "<a>&#1114112;</a>", "<a>b<!-- c -->&</a>", "<a>&am<!-- -->p;</a>", "<a>&am<?b?>p;</a>", "<a>b", "<a>&no;", "<a>b<c/>&</a>",
		"<a><!--></a>", "<a><!-- </a>", "<a><?></a>", "<a><? </a>",
	)
}

func TestReadCdataF1(t *testing.T) {
	testRead(t, []readCase{
		{"<a><![CDATA[]]></a>", el("a")},
		{"<a><![CDATA[b]]></a>", el("a", text("b"))},
		{"<a><![CDATA[<b>&amp;&no;</a>]]></a>", el("a", text("<b>&amp;&no;</a>"))},
		{"<a><![CDATA[]]]]></a>", el("a", text("]]"))},
		{"<a><![CDATA[]>]]></a>", el("a", text("]>"))},
		{"<a><![CDATA[<![CDATA[]]></a>", el("a", text("<![CDATA["))},
		{"<a>b<![CDATA[c]]>d<![CDATA[]]>e</a>", el("a", text("bcde"))},
		{"<a><![CDATA[b]]><!-- c --><?d?><![CDATA[e]]></a>", el("a", text("be"))},
		{"<a><b/><![CDATA[]]><b/></a>", el("a", el("b"), el("b"))},
		{"<a><![CDATA[&]]>amp;</a>", el("a", text("&amp;"))}, // as it stands, and not told again
		{"<a><![CDATA[<!-- ]]>b<!-- ]]> --></a>", el("a", text("<!-- b"))},
	})
	testWrong(t, api.ErrForm,
		"<a><![CDATA[</a>", "<a><![CDATA[b]]</a>", "<a><![CDATA[b]] ></a>", "<a><![cdata[b]]></a>", "<a><![CDATA b]]></a>", "<a><! [CDATA[b]]></a>", "<a><![CDATA[b]]>&</a>", "<a>&am<![CDATA[p;]]></a>", "<a><![CDATA[]></a>",
	)
}

func TestReadStateF1(t *testing.T) {
	testWrong(t, api.ErrState,
		"<a></b>", "<A></a>", "<a></ab>", "<ab></a>", "<a><b></a></b>", "<a><b></b></b>", "<a><b/></b>", "<a>c</b >", "<a></b>&", "<a></b>c", "<a></_>",
		"<a></b", "<a></b c>", "<a></b/>", // the title comes first
	)
	testWrong(t, api.ErrForm,
		"<a></1>", "<a></>", "<a></ b>", "<a></"+strings.Repeat("b", 21)+">", "<a>&</b>", "<a><b></b c></d>", "<a b></c>",
	)
}

func TestReadDeepF1(t *testing.T) {
	open := func(n int) string { return strings.Repeat("<b>", n) }
	shut := func(n int) string { return strings.Repeat("</b>", n) }
	testRead(t, []readCase{
		{open(8) + shut(8), deep(8)},
		{open(8) + "a<!-- c --><?d?><![CDATA[e]]>" + shut(8), deep(8, text("ae"))},
		{open(7) + "<b/><b></b>a" + shut(7), deep(7, el("b"), el("b"), text("a"))},
	})
	testWrong(t, api.ErrMany,
		open(9)+shut(9), open(8)+"<b/>"+shut(8), open(9), open(8)+"<b", open(8)+"<b c=/>", open(8)+"<b c='1' c='2'/>", open(8)+"a<c></d>", open(8)+"<b>&no;", open(100),
	)
	testWrong(t, api.ErrForm, open(8), open(8)+"<", open(8)+"<1/>", open(8)+"<!b>", open(8)+"&no;<b>", open(8)+"</b c><b>")
	testWrong(t, api.ErrState, open(8)+"</c><b>")
	testWrong(t, api.ErrTwice, open(7)+"<b c='1' c='2'><b>")
}

func TestReadLongF1(t *testing.T) {
	s := strings.Repeat("b", api.MaxText-len("<a></a>"))
	testRead(t, []readCase{{"<a>" + s + "</a>", el("a", text(s))}})
	testWrong(t, api.ErrMany, "<a>"+s+"b</a>", " <a>"+s+"</a>", strings.Repeat("<", api.MaxText+1), strings.Repeat(" ", api.MaxText+1))
	testWrong(t, api.ErrForm, strings.Repeat(" ", api.MaxText))
	many := "<a>" + strings.Repeat("<b/>", 700) + "</a>"
	testRead(t, []readCase{{many, el("a", slices.Repeat([]api.Node{el("b")}, 700)...)}})
}

// What is read is just what the words of F1 say, put here as patterns of pieces that stand behind one another.
func TestReadIsWhatItMustBeF1(t *testing.T) {
	signs := []string{"<", ">", "/", "a", "<a>", "</a>", "b", "='", "'", " ", "&", "!", "--", "?"}
	count := [2]int{}
	samples.Each(signs, 5, func(s string) {
		_, e := Read(s)
		if (e == api.OK) != isDocument(s) {
			t.Fatalf("%q: %d", s, e)
		}
		if e == api.OK {
			count[1]++
		} else {
			count[0]++
		}
	})
	if min(count[0], count[1]) < 100 {
		t.Errorf("wrong and right: %v", count)
	}
}

const white = "[\t\n\r ]"

var (
	remark  = regexp.MustCompile(`(?s)^(` + white + `+|<!--.*?-->|<\?.*?\?>)`)
	piece   = regexp.MustCompile(`(?s)^(<!--.*?-->|<\?.*?\?>|<!\[CDATA\[.*?\]\]>|[^<&]+)`)
	openTag = regexp.MustCompile(`^<([A-Za-z_][A-Za-z0-9_.:-]{0,19})((` + white + `+[A-Za-z_][A-Za-z0-9_.:-]{0,19}` + white + `*=` + white + `*("[^"<&]*"|'[^'<&]*'))*)` + white + `*(/?)>`)
	shutTag = regexp.MustCompile(`^</([A-Za-z_][A-Za-z0-9_.:-]{0,19})` + white + `*>`)
	title   = regexp.MustCompile(`([A-Za-z_][A-Za-z0-9_.:-]*)` + white + `*=` + white + `*("[^"]*"|'[^']*')`)
)

// isDocument: is s one, if no & is right in it, and nothing too deep?
func isDocument(s string) bool {
	var open []string
	met := false
	for s != "" {
		if m := openTag.FindStringSubmatch(s); m != nil && (len(open) > 0 || !met) {
			var titles []string
			for _, a := range title.FindAllStringSubmatch(m[2], -1) {
				if slices.Contains(titles, a[1]) {
					return false
				}
				titles = append(titles, a[1])
			}
			if m[5] == "" {
				open = append(open, m[1])
			}
			met = true
			s = s[len(m[0]):]
		} else if m := shutTag.FindStringSubmatch(s); m != nil && len(open) > 0 && open[len(open)-1] == m[1] {
			open = open[:len(open)-1]
			s = s[len(m[0]):]
		} else if m := piece.FindString(s); m != "" && len(open) > 0 {
			s = s[len(m):]
		} else if m := remark.FindString(s); m != "" && len(open) == 0 {
			s = s[len(m):]
		} else {
			return false
		}
	}
	return met && len(open) == 0
}

type checkCase struct {
	n    api.Node
	want api.Errno
}

func testCheck(t *testing.T, cases []checkCase) {
	t.Helper()
	for _, c := range cases {
		if e := Check(c.n); e != c.want {
			t.Errorf("Check of %.200s is %d, must be %d", show(c.n), e, c.want)
		}
		s, e := Print(c.n)
		if e != c.want || (e == api.OK) != (s != "") {
			t.Errorf("Print of %.200s is %.200q, %d; must be %d", show(c.n), s, e, c.want)
		}
	}
}

func TestCheckF2(t *testing.T) {
	attr := []api.Attr{{Name: "b"}}
	testCheck(t, []checkCase{
		{el("a"), api.OK},
		{api.Node{Name: "a", Attrs: []api.Attr{}, Kids: []api.Node{{Text: "b", Attrs: []api.Attr{}, Kids: []api.Node{}}}}, api.OK},
		{with(el("_a:B.-1", text(" ")), "_", "", "x:Y", "<"), api.OK},
		{el("a", text("b"), el("c", text("d")), text("e")), api.OK},
		{api.Node{}, api.ErrForm},
		{text("a"), api.ErrForm},
		{api.Node{Kids: []api.Node{el("a")}}, api.ErrForm},
		{api.Node{Name: "a", Text: "b"}, api.ErrForm},
		{el("a", text("")), api.ErrForm},
		{el("a", api.Node{Text: "b", Attrs: attr}), api.ErrForm},
		{el("a", api.Node{Text: "b", Kids: []api.Node{text("c")}}), api.ErrForm},
		{el("a", api.Node{Name: "b", Text: "c"}), api.ErrForm},
		{el("a", text("b"), text("c")), api.ErrState},
		{el("a", el("b", text("c"), text("d"))), api.ErrState},
		{el("a", text("b"), el("c"), text("d")), api.OK},
		{with(el("a"), "b", "", "b", ""), api.ErrTwice},
		{with(el("a"), "b", "1", "c", "", "b", "2"), api.ErrTwice},
		{with(el("a", with(el("c"), "b", "")), "b", "", "B", ""), api.OK},
	})
}

// Nothing is empty by its title, and nothing is closed by another: as in chapter 3 it is not.
func TestCheckNothingIsClosedF2(t *testing.T) {
	testCheck(t, []checkCase{
		{el("br", text("a")), api.OK},
		{el("hr", el("b")), api.OK},
		{el("img", el("img")), api.OK},
		{el("p", el("p")), api.OK},
		{el("p", el("ul"), el("hr")), api.OK},
		{el("li", el("b", el("li"))), api.OK},
	})
}

func TestCheckTitlesF2(t *testing.T) {
	long := strings.Repeat("a", 20)
	for title, want := range map[string]api.Errno{
		"a": api.OK, "Z": api.OK, "_": api.OK, "a-.:_9Z": api.OK, long: api.OK, long + "a": api.ErrForm,
		"1": api.ErrForm, "-a": api.ErrForm, ".a": api.ErrForm, ":a": api.ErrForm, "a b": api.ErrForm, "a\n": api.ErrForm, "a/": api.ErrForm, "a>": api.ErrForm, "a=": api.ErrForm, "\xe4": api.ErrForm, "a\u00e4": api.ErrForm, "a\xff": api.ErrForm, "a\x00": api.ErrForm, " ": api.ErrForm,
	} {
		testCheck(t, []checkCase{
			{el(title), want}, {el("a", el(title)), want}, {with(el("a"), title, ""), want}, {with(el("a"), "b", "", title, ""), want},
		})
	}
	testCheck(t, []checkCase{{with(el("a"), "", "b"), api.ErrForm}})
}

// What is wrong first tells; of one node what is named first.
func TestCheckOrderF2(t *testing.T) {
	testCheck(t, []checkCase{
		{with(el("1"), "b", "", "b", ""), api.ErrForm},
		{with(el("a", text("")), "b", "", "b", ""), api.ErrTwice},
		{with(el("a"), "b", "", "b", "", "1", ""), api.ErrTwice},
		{with(el("a"), "b", "", "1", "", "b", ""), api.ErrForm},
		{el("a", text("b"), text("c"), text("")), api.ErrState},
		{el("a", text("b"), text("")), api.ErrForm},
		{el("a", el("b", text("c"), text("d")), el("1")), api.ErrState},
		{el("a", el("1", text("c"), text("d"))), api.ErrForm},
		{el("1", deep(8)), api.ErrMany},
		{el("a", text(""), deep(8)), api.ErrMany},
		{api.Node{Kids: []api.Node{deep(8)}}, api.ErrMany},
	})
}

func TestCheckManyF2(t *testing.T) {
	for n := 1; n <= 10; n++ {
		want := api.OK
		if n > api.MaxDepth {
			want = api.ErrMany
		}
		testCheck(t, []checkCase{{deep(n), want}, {deep(n, text("a")), want}})
	}
	b := []api.Node{el("b")}
	testCheck(t, []checkCase{
		{el("a", slices.Repeat(b, api.MaxText-1)...), api.OK},
		{el("a", slices.Repeat(b, api.MaxText)...), api.ErrMany},
		{el("1", slices.Repeat(b, api.MaxText)...), api.ErrMany},
		{api.Node{Kids: slices.Repeat(b, api.MaxText)}, api.ErrMany},
		{el("a", el("c", slices.Repeat(b, api.MaxText-2)...)), api.OK},
		{el("a", el("c", slices.Repeat(b, api.MaxText-2)...), text("d")), api.ErrMany},
	})
}

func TestPrintF2(t *testing.T) {
	for _, c := range []struct {
		n    api.Node
		want string
	}{
		{el("a"), "<a/>"},
		{el("br"), "<br/>"},
		{el("A:b"), "<A:b/>"},
		{el("a", text("b")), "<a>b</a>"},
		{el("a", el("b")), "<a><b/></a>"},
		{el("a", text("b"), el("c", text("d")), text("e")), "<a>b<c>d</c>e</a>"},
		{with(el("a"), "c", "1", "b", ""), `<a c="1" b=""/>`},
		{with(el("a", text("d")), "b", "c"), `<a b="c">d</a>`},
		{with(el("a", text("&<>\"'")), "b", "&<>\"'"), `<a b="&amp;&lt;&gt;&quot;'">&amp;&lt;&gt;&quot;'</a>`},
		{el("a", text(" \n]]>\x00\xff")), "<a> \n]]&gt;\x00\xff</a>"},
	} {
		if s, e := Print(c.n); s != c.want || e != api.OK {
			t.Errorf("Print of %s is %q, %d; must be %q", show(c.n), s, e, c.want)
		}
	}
}

// A text that is printed may be longer than one that may be read: Check has nothing against it.
func TestPrintLongF2(t *testing.T) {
	for _, n := range []int{api.MaxText, api.MaxText + 1, 2*api.MaxText + 1} {
		s := strings.Repeat("<", n-1) + "a"
		put := strings.Repeat("&lt;", n-1) + "a"
		if got, e := Print(with(el("a", text(s)), "b", s)); got != `<a b="`+put+`">`+put+"</a>" || e != api.OK {
			t.Errorf("a text and a value of %d bytes: %d bytes, %d", n, len(got), e)
		}
	}
}

func testAgain(t *testing.T, n api.Node) {
	t.Helper()
	s, e := Print(n)
	again, f := Read(s)
	if show(again) != show(n) || e != api.OK || f != api.OK {
		t.Fatalf("%s is printed as %q (%d) and read as %s (%d)", show(n), s, e, show(again), f)
	}
}

func TestPrintedIsReadF3(t *testing.T) {
	for _, v := range []string{"x", " ", "\t\r\n", "'", "\"", "<a>", "</a>", "<!-- -->", "<?x?>", "<![CDATA[x]]>", "]]>", "&", "&amp;", "&#65;", "&no;", "\x00\xff", "=/>", "\u20ac"} {
		testAgain(t, with(el("a"), "b", v))
		testAgain(t, el("a", text(v)))
		testAgain(t, with(el("p", text(v), with(el("p", el("br", text(v)), text(v)), "b", v), text(v)), "x:y", v, "_", ""))
		testAgain(t, deep(8, text(v)))
	}
}

// Whatever is read is right, and printed it is read as it was; what is not is answered by nothing but one of the errors that F1 names.
func TestReadIsRightP1P3F1F3(t *testing.T) {
	signs := []string{"<a>", "</a>", "<b/>", "<b>", "</b>", "<b c='", "d=\"", "'", "\"", " ", ">", "&lt;", "&", "<!--", "-->", "<![CDATA[", "]]>"}
	kinds := map[api.Errno]int{}
	samples.Each(signs, 4, func(s string) {
		for _, s := range []string{s, "<a>" + s + "</a>"} {
			n, e := Read(s)
			kinds[e]++
			if e == api.OK {
				if f := Check(n); f != api.OK {
					t.Fatalf("%q is read as %s, which is %d", s, show(n), f)
				}
				testAgain(t, n)
			} else if show(n) != show(api.Node{}) || e != api.ErrForm && e != api.ErrTwice && e != api.ErrState {
				t.Fatalf("%q is read as %s, %d", s, show(n), e)
			}
			if again, f := Read(s); show(again) != show(n) || f != e {
				t.Fatalf("%q is read as %s, then as %s", s, show(n), show(again))
			}
		}
	})
	if kinds[api.OK] < 100 || kinds[api.ErrForm] < 100 || kinds[api.ErrState] < 100 {
		t.Errorf("answers: %v", kinds)
	}
}

// Lists that stand in themselves end too.
func TestCheckEndsP1(t *testing.T) {
	for _, name := range []string{"a", "", "1"} {
		round := []api.Node{el(name)}
		round[0].Kids = round
		if e := Check(round[0]); e != api.ErrMany {
			t.Errorf("Check is %d", e)
		}
		if s, e := Print(round[0]); s != "" || e != api.ErrMany {
			t.Errorf("Print is %d bytes, %d", len(s), e)
		}
	}
}

func TestOnlyReadP2(t *testing.T) {
	attrs := []api.Attr{{Name: "b", Value: "<"}, {Name: "a", Value: "&"}, {Name: "spare", Value: "1"}}
	kids := []api.Node{text("x"), el("c"), el("spare")}
	n := api.Node{Name: "a", Attrs: attrs[:2], Kids: kids[:2]}
	was := fmt.Sprint(attrs, kids)
	for range 2 {
		if e := Check(n); e != api.OK {
			t.Errorf("Check is %d", e)
		}
		if s, e := Print(n); s != `<a b="&lt;" a="&amp;">x<c/></a>` || e != api.OK {
			t.Errorf("Print is %q, %d", s, e)
		}
	}
	if now := fmt.Sprint(attrs, kids); now != was {
		t.Errorf("what was handed in was\n%s and is\n%s", was, now)
	}
}

func TestNoSharedListsP2(t *testing.T) {
	const s = "<a b='1' c='2'><d e='3' f='4'>x<g/>y</d><d e='5'><h/><h/></d>z</a>"
	n, _ := Read(s)
	was := show(n)
	spoilAttrs(n.Attrs)
	for i := range n.Kids {
		rest := fmt.Sprint(n.Kids[i+1:])
		spoilAttrs(n.Kids[i].Attrs)
		spoilNodes(n.Kids[i].Kids)
		if fmt.Sprint(n.Kids[i+1:]) != rest {
			t.Errorf("lists are shared: %s", show(n))
		}
	}
	spoilNodes(n.Kids)
	if again, _ := Read(s); show(again) != was {
		t.Errorf("a change of an answer is seen in the next: %s", show(again))
	}
}

// spoilAttrs, and the room behind them.
func spoilAttrs(l []api.Attr) {
	l = l[:cap(l)]
	for i := range l {
		l[i] = api.Attr{Name: "spoilt", Value: "spoilt"}
	}
}

func spoilNodes(l []api.Node) {
	l = l[:cap(l)]
	for i := range l {
		l[i] = text("spoilt")
	}
}
