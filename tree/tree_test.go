package tree

import (
	"fmt"
	"slices"
	"strings"
	"testing"

	"marginalia/api"
	"marginalia/samples"
	"marginalia/token"
)

// tokens of markup, as chapter 2 reads it.
func tokens(t *testing.T, s string) []api.Token {
	t.Helper()
	l, e := token.Read(s)
	if e != api.OK {
		t.Fatalf("%q is not read: %d", s, e)
	}
	return l
}

// show nodes, so that two trees that show the same are the same: b[..] an element, with its attributes, 'x' a text.
func show(l []api.Node) string {
	var out []string
	for _, n := range l {
		s := ""
		if n.Text != "" || n.Name == "" {
			s = "'" + n.Text + "'"
		}
		for _, a := range n.Attrs {
			s += fmt.Sprintf("(%s=%q)", a.Name, a.Value)
		}
		if n.Name != "" || len(n.Kids) > 0 {
			s = n.Name + s + "[" + show(n.Kids) + "]"
		}
		out = append(out, s)
	}
	return strings.Join(out, " ")
}

func el(name string, kids ...api.Node) api.Node { return api.Node{Name: name, Kids: kids} }

func text(s string) api.Node { return api.Node{Text: s} }

// with attributes, names and values by turns.
func with(n api.Node, attrs ...string) api.Node {
	for i := 0; i < len(attrs); i += 2 {
		n.Attrs = append(n.Attrs, api.Attr{Name: attrs[i], Value: attrs[i+1]})
	}
	return n
}

func list(l ...api.Node) []api.Node { return l }

// deep: so many b in one another, and in the innermost one these.
func deep(n int, in ...api.Node) api.Node {
	for range n - 1 {
		in = list(el("b", in...))
	}
	return el("b", in...)
}

type buildCase struct{ s, want string }

func testBuild(t *testing.T, cases []buildCase) {
	t.Helper()
	for _, c := range cases {
		if got, e := Build(tokens(t, c.s)); show(got) != c.want || e != api.OK {
			t.Errorf("of %s: %s, %d; must be %s", c.s, show(got), e, c.want)
		}
	}
}

func TestBuildC1(t *testing.T) {
	testBuild(t, []buildCase{
		{"", ""},
		{"a", "'a'"},
		{"<p>", "p[]"},
		{"<p>a</p>b", "p['a'] 'b'"},
		{"<b><i>a", "b[i['a']]"},
		{"<b>a<i>c</i>d</b>e", "b['a' i['c'] 'd'] 'e'"},
		{"<a href=x title='y&amp;'>b</a>", `a(href="x")(title="y&")['b']`},
		{"<b><b>a</b>c</b>d", "b[b['a'] 'c'] 'd'"},
		{"<a><a>", "a[a[]]"},
		{"<i><p>a", "i[p['a']]"},
		{"<x-1><section>", "x-1[section[]]"},
	})
}

func TestBuildClosesC1(t *testing.T) {
	testBuild(t, []buildCase{
		{"</b>", ""},
		{"</b>a", "'a'"},
		{"<i></b>a", "i['a']"},
		{"<b><i>a</b>c</i>d", "b[i['a']] 'cd'"},
		{"<b><i><b>a</b>c</b>d", "b[i[b['a'] 'c']] 'd'"},
		{"<b><ul><li><p>a</b>c", "b[ul[li[p['a']]]] 'c'"}, // no wall hides what a tag closes
		{"<p><b></p>a</b>c", "p[b[]] 'ac'"},
		{"<li><ul></li>a", "li[ul[]] 'a'"},
	})
}

func TestBuildTextsC1(t *testing.T) {
	testBuild(t, []buildCase{
		{"a</b>c", "'ac'"},
		{"a</b></i>c</br>d", "'acd'"},
		{"<b>a</i>c", "b['ac']"},
		{"a<br>b", "'a' br[] 'b'"},
		{"a<b></b>c", "'a' b[] 'c'"},
		{"<b>a</b>c", "b['a'] 'c'"},
		{"<b>a</b></b>c</b>d", "b['a'] 'cd'"},
	})
}

func TestBuildEmptyC1(t *testing.T) {
	testBuild(t, []buildCase{
		{"<br>a", "br[] 'a'"},
		{"<hr>a", "hr[] 'a'"},
		{"<img src=x>a", `img(src="x")[] 'a'`},
		{"<br><br></br>a", "br[] br[] 'a'"},
		{"<b><br>a<img>c<hr>", "b[br[] 'a' img[] 'c' hr[]]"},
		{"<hr></hr></img>a", "hr[] 'a'"},
		{"<input>a", "input['a']"},
		{"<br-1>a<h1>", "br-1['a' h1[]]"},
	})
}

func TestBuildBlocksC1(t *testing.T) {
	for _, name := range []string{"p", "ul", "ol", "li", "blockquote"} {
		testBuild(t, []buildCase{
			{"<p>a<" + name + ">c", "p['a'] " + name + "['c']"},
			{"<p><b><i>a<" + name + ">c", "p[b[i['a']]] " + name + "['c']"},
			{"<i><p><b><" + name + ">c", "i[p[b[]] " + name + "['c']]"},
		})
	}
	for _, name := range []string{"b", "a", "section", "div", "pre", "x"} {
		testBuild(t, []buildCase{{"<p>a<" + name + ">c", "p['a' " + name + "['c']]"}})
	}
	testBuild(t, []buildCase{
		{"<p>a<hr>c", "p['a'] hr[] 'c'"},
		{"<p><b>a<hr>c", "p[b['a']] hr[] 'c'"},
		{"<p>a<br>c<img>", "p['a' br[] 'c' img[]]"},
		{"<b>a<p>c<p>d</b>e", "b['a' p['c'] p['d']] 'e'"},
	})
}

func TestBuildWallsC1(t *testing.T) {
	testBuild(t, []buildCase{
		{"<blockquote><p>a<blockquote><p>b<p>c", "blockquote[p['a'] blockquote[p['b'] p['c']]]"},
		{"<ul><li><p>a<ul><li><p>b<li>c", "ul[li[p['a'] ul[li[p['b']] li['c']]]]"},
		{"<ul><li>a<li>b</ul>c", "ul[li['a'] li['b']] 'c'"},
		{"<ol><li>a<li>b", "ol[li['a'] li['b']]"},
		{"<li>a<b>c<li>d", "li['a' b['c']] li['d']"},
		{"<li>a<ul><li>b<li>c</ul><li>d", "li['a' ul[li['b'] li['c']]] li['d']"},
		{"<li>a<ol><li>b", "li['a' ol[li['b']]]"},
		{"<li><ul>a<b><li>c<li>d", "li[ul['a' b[li['c'] li['d']]]]"},
		{"<li><blockquote>a<li>c", "li[blockquote['a']] li['c']"}, // it hides a p, but no li
		{"<li><blockquote><p>a<li>c", "li[blockquote[p['a']]] li['c']"},
		{"<ul><blockquote><li>a<li>b", "ul[blockquote[li['a'] li['b']]]"},
		{"<li><ul><p>a<li>b", "li[ul[p['a'] li['b']]]"}, // the p goes, though the li stays
		{"<p><li>a<p>b<li>c", "p[] li['a' p['b']] li['c']"},
		{"<li><ul><ol></ul><li>a", "li[ul[ol[]]] li['a']"},
	})
}

func TestBuildDeepC1(t *testing.T) {
	b8 := strings.Repeat("<b>", api.MaxDepth)
	b7 := b8[3:]
	shown := func(n int, in string) string { return strings.Repeat("b[", n) + in + strings.Repeat("]", n) }
	testBuild(t, []buildCase{
		{b8 + "a", shown(8, "'a'")},
		{b8 + "<i>a</i>c", shown(8, "'ac'")},
		{b8 + "a<br>c<hr>d<img>e", shown(8, "'acde'")},
		{b8 + "<b>a</b>c", shown(7, "b['a'] 'c'")}, // what did not come is closed all the same: the innermost b
		{b8 + "<b><b><b></b>a", shown(7, "b[] 'a'")},
		{b8 + "<p><p>a", shown(8, "'a'")},
		{b7 + "<p>a<p>c", shown(7, "p['a'] p['c']")},
		{b7 + "<p>a<hr>c", shown(7, "p['a'] hr[] 'c'")},
		{b7 + "<li>a<i>c<li>d", shown(7, "li['ac'] li['d']")},
		{b7[3:] + "<p><i>a<ul>c<li>d", shown(6, "p[i['a']] ul['c' li['d']]")},
	})
}

func TestBuildErrorsC1(t *testing.T) {
	p := api.Token{Kind: api.TokenOpen, Name: "p"}
	twice := []api.Attr{{Name: "a"}, {Name: "a"}}
	for _, l := range [][]api.Token{
		{{}},
		{p, {Kind: 4}},
		{p, {Kind: api.TokenText}},
		{{Kind: api.TokenOpen, Name: "P"}},
		{{Kind: api.TokenOpen, Name: "p", Attrs: twice}},
		{{Kind: api.TokenClose, Name: "p", Attrs: twice}},
		{{Kind: api.TokenText, Text: "a"}, {Kind: api.TokenText, Text: "b"}},
		slices.Repeat([]api.Token{p}, api.MaxText+1),
	} {
		want := token.Check(l)
		if got, e := Build(l); len(got) != 0 || e != want || e == api.OK {
			t.Errorf("of %d tokens: %s, %d; must be %d", len(l), show(got), e, want)
		}
	}
	l := slices.Repeat([]api.Token{p}, api.MaxText)
	if got, e := Build(l); len(got) != len(l) || e != api.OK {
		t.Errorf("of %d tokens: %d nodes, %d", len(l), len(got), e)
	}
}

type checkCase struct {
	l    []api.Node
	want api.Errno
}

func testCheck(t *testing.T, cases []checkCase) {
	t.Helper()
	for _, c := range cases {
		if e := Check(c.l); e != c.want {
			t.Errorf("Check of %s is %d, must be %d", show(c.l), e, c.want)
		}
		l, e := Flat(c.l)
		if e != c.want || e != api.OK && len(l) != 0 {
			t.Errorf("Flat of %s is %v, %d; must be %d", show(c.l), l, e, c.want)
		}
	}
}

func TestCheckC2(t *testing.T) {
	testCheck(t, []checkCase{
		{nil, api.OK},
		{list(), api.OK},
		{list(text("a"), el("br"), text("b")), api.OK},
		{list(el("p", text("a")), el("p", text("b")), text("c")), api.OK},
		{list(with(el("a", text("x")), "href", "<", "b-1", "")), api.OK},
		{list(api.Node{Text: "a", Attrs: []api.Attr{}, Kids: []api.Node{}}), api.OK},
		{list(api.Node{Name: "br", Attrs: []api.Attr{}, Kids: []api.Node{}}), api.OK},
		{list(el("b", text("a"), el("i", text("c")), text("d"))), api.OK},
	})
}

func TestCheckFormC2(t *testing.T) {
	testCheck(t, []checkCase{
		{list(text("")), api.ErrForm},
		{list(el("p", text(""))), api.ErrForm},
		{list(with(text("a"), "b", "")), api.ErrForm},
		{list(with(text(""), "b", "")), api.ErrForm},
		{list(api.Node{Text: "a", Kids: list(text("b"))}), api.ErrForm},
		{list(api.Node{Kids: list(el("p"))}), api.ErrForm},
		{list(api.Node{Name: "p", Text: "a"}), api.ErrForm},
		{list(el("P")), api.ErrForm},
		{list(el("1")), api.ErrForm},
		{list(el("a b")), api.ErrForm},
		{list(el(strings.Repeat("a", 20))), api.OK},
		{list(el(strings.Repeat("a", 21))), api.ErrForm},
		{list(el("br", text("a"))), api.ErrForm},
		{list(el("hr", el("b"))), api.ErrForm},
		{list(el("img", text(""))), api.ErrForm},
		{list(with(el("p"), "A", "")), api.ErrForm},
		{list(with(el("p"), "", "a")), api.ErrForm},
		{list(with(el("p"), "a", "", "a", "")), api.ErrTwice},
		{list(with(el("p"), "a", "", "a", "", "A", "")), api.ErrTwice},
		{list(with(el("p"), "a", "", "A", "", "a", "")), api.ErrForm},
	})
}

func TestCheckStateC2(t *testing.T) {
	testCheck(t, []checkCase{
		{list(text("a"), text("b")), api.ErrState},
		{list(el("b", el("i"), text("a"), text("b"))), api.ErrState},
		{list(text("a"), el("b", text("a")), text("b")), api.OK},
		{list(el("p", el("p"))), api.ErrState},
		{list(el("p", el("hr"))), api.ErrState},
		{list(el("p", el("ul"))), api.ErrState},
		{list(el("p", el("ol"))), api.ErrState},
		{list(el("p", el("li"))), api.ErrState},
		{list(el("p", el("blockquote"))), api.ErrState},
		{list(el("p", el("b", el("i", el("p"))))), api.ErrState},
		{list(el("p", el("br"), el("img"), el("div"))), api.OK},
		{list(el("blockquote", el("p"), el("p"))), api.OK},
		{list(el("li", el("li"))), api.ErrState},
		{list(el("li", el("b", el("li")))), api.ErrState},
		{list(el("li", el("blockquote", el("li")))), api.ErrState},
		{list(el("li", el("ul", el("li")))), api.OK},
		{list(el("li", el("ol", el("b", el("li"))))), api.OK},
		{list(el("li", el("ul", el("blockquote", el("li"))))), api.OK},
		{list(el("li", el("p"), el("hr"), el("ul"))), api.OK},
	})
}

// What is wrong first, from the beginning on and each node ahead of what is in it, tells; of one node what is named first.
func TestCheckOrderC2(t *testing.T) {
	testCheck(t, []checkCase{
		{list(text("a"), text("b"), text("")), api.ErrState},
		{list(text("a"), text("")), api.ErrForm},
		{list(text(""), text("a")), api.ErrForm},
		{list(el("p", el("p")), text("")), api.ErrState},
		{list(text(""), el("p", el("p"))), api.ErrForm},
		{list(with(el("p", text("")), "a", "", "a", "")), api.ErrTwice},
		{list(with(el("br", text("a")), "a", "", "a", "")), api.ErrForm},
		{list(el("p", with(el("p"), "a", "", "a", ""))), api.ErrTwice},
		{list(el("p", with(el("p", text("")), "a", ""))), api.ErrState},
		{list(el("b", text("a"), text("b")), el("B")), api.ErrState},
		{list(with(api.Node{Name: "p", Text: "a"}, "a", "", "a", "")), api.ErrForm},
		{list(text(""), deep(9)), api.ErrMany},
		{list(el("P", list(text("a"), text("b"))...), deep(9)), api.ErrMany},
	})
}

func TestCheckManyC2(t *testing.T) {
	for n := 1; n <= 10; n++ {
		want := api.OK
		if n > api.MaxDepth {
			want = api.ErrMany
		}
		testCheck(t, []checkCase{
			{list(deep(n)), want},
			{list(deep(n, text("a"))), want}, // a text is no deeper than what it stands in
			{list(el("i", deep(1)), deep(n, text("a"))), want},
		})
	}
	testCheck(t, []checkCase{
		{list(deep(8, el("br"))), api.ErrMany},
		{list(deep(7, el("br"))), api.OK},
		{slices.Repeat(list(el("b")), api.MaxText), api.OK},
		{slices.Repeat(list(el("b")), api.MaxText+1), api.ErrMany},
		{slices.Repeat(list(text("")), api.MaxText+1), api.ErrMany},
		{list(el("b", slices.Repeat(list(el("b")), api.MaxText-1)...)), api.OK},
		{list(el("b", slices.Repeat(list(el("b")), api.MaxText)...)), api.ErrMany},
		{slices.Repeat(list(el("b", el("i"))), api.MaxText/2), api.OK},
		{append(slices.Repeat(list(el("b", el("i"))), api.MaxText/2), el("b")), api.ErrMany},
	})
}

// Lists that stand in themselves, and what is far too great when it is laid out: both end.
func TestCheckEndsP1(t *testing.T) {
	for _, n := range []api.Node{el("b"), text("a"), text(""), el("br")} {
		round := list(n)
		round[0].Kids = round
		testCheckError(t, round, api.ErrMany)
	}
	wide := list(el("b"))
	for range 7 {
		wide = slices.Repeat(list(el("b", wide...)), 1000)
	}
	testCheckError(t, wide, api.ErrMany)
	chain := text("a")
	for range 1 << 16 {
		chain = api.Node{Text: "a", Kids: list(chain)}
	}
	testCheckError(t, list(chain), api.ErrMany)
}

// testCheckError of a tree that can't be shown.
func testCheckError(t *testing.T, l []api.Node, want api.Errno) {
	t.Helper()
	if e := Check(l); e != want {
		t.Errorf("Check is %d, must be %d", e, want)
	}
	if f, e := Flat(l); len(f) != 0 || e != want {
		t.Errorf("Flat is %d tokens, %d; must be %d", len(f), e, want)
	}
}

func TestFlatC2(t *testing.T) {
	for _, c := range []struct {
		l    []api.Node
		want string
	}{
		{nil, ""},
		{list(text("a<")), "a&lt;"},
		{list(el("p")), "<p></p>"},
		{list(el("br"), el("hr"), el("img")), "<br><hr><img>"},
		{list(with(el("img"), "src", "x", "alt", "")), `<img src="x" alt="">`},
		{list(el("p", text("a"), el("b", text("c")), text("d")), text("e")), "<p>a<b>c</b>d</p>e"},
		{list(el("ul", el("li", text("a")), el("li", el("ul", el("li"))))), "<ul><li>a</li><li><ul><li></li></ul></li></ul>"},
		{list(with(el("a", text("b")), "href", "\"", "title", "y")), `<a href="&quot;" title="y">b</a>`},
	} {
		l, e := Flat(c.l)
		if s, f := token.Print(l); s != c.want || e != api.OK || f != api.OK {
			t.Errorf("Flat of %s is %s, %d; must be %s", show(c.l), s, e, c.want)
		}
	}
}

// So many nodes that their tokens are too many for Build: Flat has nothing against it.
func TestFlatLongC2(t *testing.T) {
	l, e := Flat(slices.Repeat(list(el("b")), api.MaxText))
	if len(l) != 2*api.MaxText || e != api.OK {
		t.Errorf("%d tokens, %d", len(l), e)
	}
}

// Whatever is built is right, and built of its own tokens again it is the same.
func TestBuiltIsRightC3P1P3(t *testing.T) {
	tags := []string{"<p>", "</p>", "<ul>", "<li>", "</li>", "<blockquote>", "<b>", "</b>", "<hr>", "a"}
	samples.Each(tags, 5, func(s string) {
		testAgain(t, s)
	})
	b7 := strings.Repeat("<b>", 7)
	samples.Each(tags, 4, func(s string) {
		testAgain(t, b7+s)
	})
}

func testAgain(t *testing.T, s string) {
	t.Helper()
	in, _ := token.Read(s)
	built, e := Build(in)
	if e != api.OK || Check(built) != api.OK {
		t.Fatalf("of %s: %s, %d, which is %d", s, show(built), e, Check(built))
	}
	l, e := Flat(built)
	again, f := Build(l)
	if e != api.OK || f != api.OK || show(again) != show(built) {
		t.Fatalf("of %s: %s; again: %s (%d, %d)", s, show(built), show(again), e, f)
	}
}

// A small tree is right just if Build of its tokens, laid out here as C2 says of Flat, answers it.
func TestCheckIsBuildOfFlatC2(t *testing.T) {
	count := map[bool]int{}
	try := func(l ...api.Node) { count[testBuildOfFlat(t, l)]++ }
	for _, a := range chains(4) {
		try(a)
	}
	for _, a := range chains(3) {
		for _, b := range chains(1) {
			try(a, b)
			try(el("b", b, a))
			try(el("li", a, b))
		}
	}
	if count[true] < 1000 || count[false] < 1000 {
		t.Errorf("right and wrong: %v", count)
	}
}

func testBuildOfFlat(t *testing.T, l []api.Node) bool {
	t.Helper()
	var tokens []api.Token
	flat(l, func(t api.Token) { tokens = append(tokens, t) })
	again, e := Build(tokens)
	same := e == api.OK && show(again) == show(l)
	if got := Check(l); (got == api.OK) != same {
		t.Fatalf("Check of %s is %d; built of its tokens it is %s, %d", show(l), got, show(again), e)
	}
	return same
}

// chains: all elements of these names that have at most one in each other, at most n deep, and a text.
func chains(n int) []api.Node {
	out := list(text("a"))
	if n == 0 {
		return out
	}
	for _, name := range []string{"p", "ul", "li", "blockquote", "b", "hr"} {
		out = append(out, el(name))
		for _, kid := range chains(n - 1) {
			out = append(out, el(name, kid))
		}
	}
	return out
}

func TestOnlyReadP2(t *testing.T) {
	attrs := []api.Attr{{Name: "b", Value: "1"}, {Name: "a", Value: "2"}, {Name: "spare", Value: "3"}}
	in := []api.Token{{Kind: api.TokenOpen, Name: "a", Attrs: attrs[:2]}, {Kind: api.TokenText, Text: "x"}, {Kind: api.TokenClose, Name: "spare"}}
	nodes := list(with(el("a", list(text("x"), el("spare"))[:1]...)), text("y"), el("spare"))
	nodes[0].Attrs = attrs[:2]
	look := func() string { return fmt.Sprint(attrs, in, nodes, nodes[0].Kids[:2]) }
	was := look()
	for range 2 {
		if l, e := Build(in[:2]); show(l) != `a(b="1")(a="2")['x']` || e != api.OK {
			t.Errorf("built is %s, %d", show(l), e)
		}
		if e := Check(nodes[:2]); e != api.OK {
			t.Errorf("Check is %d", e)
		}
		if l, e := Flat(nodes[:2]); len(l) != 4 || e != api.OK {
			t.Errorf("Flat is %v, %d", l, e)
		}
	}
	if now := look(); now != was {
		t.Errorf("what was handed in was\n%s and is\n%s", was, now)
	}
}

func TestNoSharedListsP2(t *testing.T) {
	in := tokens(t, "<a b=1 c=2>x<i d=3></i>y</a><b e=4>z")
	was := fmt.Sprint(in)
	built, _ := Build(in)
	flat, _ := Flat(built)
	shown := show(built)
	for i := range flat {
		spoil(flat[i].Attrs)
	}
	if fmt.Sprint(in) != was || show(built) != shown {
		t.Errorf("what Flat answers shares lists: %s", show(built))
	}
	for len(built) > 0 {
		rest := show(built[1:])
		spoil(built[0].Attrs)
		spoilNodes(built[0].Kids)
		if fmt.Sprint(in) != was || show(built[1:]) != rest {
			t.Errorf("what Build answers shares lists: %s, %s", fmt.Sprint(in), show(built))
		}
		built = built[1:]
	}
}

// spoil attributes, and the room behind them.
func spoil(l []api.Attr) {
	l = l[:cap(l)]
	for i := range l {
		l[i] = api.Attr{Name: "spoilt", Value: "spoilt"}
	}
}

func spoilNodes(l []api.Node) {
	for i := range l {
		spoil(l[i].Attrs)
		spoilNodes(l[i].Kids)
	}
	l = l[:cap(l)]
	for i := range l {
		l[i] = text("spoilt")
	}
}
