package url

import (
	"strings"
	"testing"

	"marginalia/api"
	"marginalia/samples"
)

// link of parts, in their order: "s" and a scheme, "a" an authority, "p" a path, "q" a query, "f" a fragment.
func link(parts ...string) api.Url {
	var u api.Url
	for _, p := range parts {
		v := p[1:]
		switch p[0] {
		case 's':
			u.Scheme, u.HasScheme = v, true
		case 'a':
			u.Authority, u.HasAuthority = v, true
		case 'p':
			u.Path = v
		case 'q':
			u.Query, u.HasQuery = v, true
		case 'f':
			u.Fragment, u.HasFragment = v, true
		}
	}
	return u
}

func TestSplitD1(t *testing.T) {
	for _, c := range []struct {
		s    string
		want api.Url
	}{
		{"", link()},
		{"http://u@h:1/p;x?q=/#f?", link("shttp", "au@h:1", "p/p;x", "qq=/", "ff?")},
		{"a", link("pa")},
		{"a:", link("sa")},
		{"A:b", link("sA", "pb")},
		{"z9+-.:b", link("sz9+-.", "pb")},
		{"a:b:c", link("sa", "pb:c")},
		{"mailto:x@y", link("smailto", "px@y")},
		{":", link("p:")},
		{":a", link("p:a")},
		{"1a:b", link("p1a:b")},
		{"+a:b", link("p+a:b")},
		{"a b:c", link("pa b:c")},
		{"a_:c", link("pa_:c")},
		{"a%:c", link("pa%:c")},
		{" a:b", link("p a:b")},
		{"\xe4:c", link("p\xe4:c")},
		{"\u212A:c", link("p\u212A:c")},
		{"a/b:c", link("pa/b:c")},
		{"a?b:c", link("pa", "qb:c")},
		{"a#b:c", link("pa", "fb:c")},
		{"//", link("a")},
		{"///", link("a", "p/")},
		{"////", link("a", "p//")},
		{"//a", link("aa")},
		{"//a/b", link("aa", "p/b")},
		{"//a?b", link("aa", "qb")},
		{"//a#b", link("aa", "fb")},
		{"//a:1:b", link("aa:1:b")},
		{"a://", link("sa", "a")},
		{"a:/b", link("sa", "p/b")},
		{"a:/b//c", link("sa", "p/b//c")},
		{"/", link("p/")},
		{"?", link("q")},
		{"#", link("f")},
		{"?#", link("q", "f")},
		{"#?", link("f?")},
		{"a?b?c#d#e", link("pa", "qb?c", "fd#e")},
		{"?//a", link("q//a")},
		{"\x00\xff", link("p\x00\xff")},
	} {
		if u, e := Split(c.s); u != c.want || e != api.OK {
			t.Errorf("Split(%q) is %+v, %d; must be %+v", c.s, u, e, c.want)
		}
		if s, e := Join(c.want); s != c.s || e != api.OK {
			t.Errorf("Join(%+v) is %q, %d; must be %q", c.want, s, e, c.s)
		}
	}
}

func TestSplitLongD1(t *testing.T) {
	s := strings.Repeat("a", api.MaxText)
	if u, e := Split(s); u != link("p"+s) || e != api.OK {
		t.Errorf("of %d bytes: %d", len(s), e)
	}
	if u, e := Split(s + "a"); u != link() || e != api.ErrMany {
		t.Errorf("of %d bytes: %+v, %d", len(s)+1, u, e)
	}
}

func TestJoinErrorsD1(t *testing.T) {
	without := func(u api.Url, change func(u *api.Url)) api.Url {
		change(&u)
		return u
	}
	long := strings.Repeat("a", api.MaxText)
	for _, u := range []api.Url{
		link("p//x"),
		link("p//"),
		link("sa", "p//x"),
		link("pa:b"),
		link("pa:"),
		link("pa?b"),
		link("pa#b"),
		link("s", "px"),
		link("s1", "px"),
		link("sa/", "px"),
		link("sa:b", "px"),
		link("s\xe4", "px"),
		link("ah/", "p/x"),
		link("ah?", "p/x"),
		link("ah#", "p/x"),
		link("ah", "px"),
		link("a", "px"),
		link("q#"),
		link("px", "qa#b"),
		without(link("sa", "px"), func(u *api.Url) { u.HasScheme = false }),
		without(link("aa"), func(u *api.Url) { u.HasAuthority = false }),
		without(link("qa"), func(u *api.Url) { u.HasQuery = false }),
		without(link("fa"), func(u *api.Url) { u.HasFragment = false }),
		link("p" + long + "a"), // Split does not answer it
		link("p"+long, "f"),
	} {
		if s, e := Join(u); s != "" || e != api.ErrForm {
			t.Errorf("Join(%+v) is %q, %d", u, s, e)
		}
	}
	if s, e := Join(link("p" + long)); s != long || e != api.OK {
		t.Errorf("Join of %d bytes: %d bytes, %d", len(long), len(s), e)
	}
	for _, u := range []api.Url{link("q?/"), link("f#?/"), link("a", "p//x"), link("pa/b:c")} {
		if _, e := Join(u); e != api.OK {
			t.Errorf("Join(%+v) is %d", u, e)
		}
	}
}

func TestDotsD2(t *testing.T) {
	for _, c := range []struct{ path, want string }{
		{"", ""},
		{"/", "/"},
		{"//", "//"},
		{"a", "a"},
		{"a/b/", "a/b/"},
		{".", ""},
		{"..", ""},
		{"./", ""},
		{"../", ""},
		{"./a", "a"},
		{"../a", "a"},
		{"../.././a", "a"},
		{"././..", ""},
		{"/.", "/"},
		{"/..", "/"},
		{"/./", "/"},
		{"/../", "/"},
		{"/../..", "/"},
		{"/./.", "/"},
		{"/a/.", "/a/"},
		{"/a/..", "/"},
		{"/a/./b", "/a/b"},
		{"/a/../b", "/b"},
		{"/a/b/../c", "/a/c"},
		{"/a/b/../../c", "/c"},
		{"/a/b/../../../c", "/c"},
		{"/a/b/c/./../../g", "/a/g"},
		{"mid/content=5/../6", "mid/6"},
		{"a/.", "a/"},
		{"a/..", "/"},
		{"a/../b", "/b"},
		{"a/../..", "/"},
		{"a/b/..", "a/"},
		{"a/b/../..", "/"},
		{"a//..", "a/"},
		{"a//../b", "a/b"},
		{"//..", "/"},
		{"/.//a", "//a"},
		{".//a", "/a"},
		{"..//a", "/a"},
		{"/..//a", "//a"},
		{"...", "..."},
		{"/.../", "/.../"},
		{".a/..b/c./d..", ".a/..b/c./d.."},
		{"/..a/.b/../c", "/..a/c"},
		{"a:/../b", "/b"},
		{"/a/%2e%2e/b", "/a/%2e%2e/b"},
		{"?/../#", "/#"}, // all of it is a path here
	} {
		if s, e := Dots(c.path); s != c.want || e != api.OK {
			t.Errorf("Dots(%q) is %q, %d; must be %q", c.path, s, e, c.want)
		}
	}
}

func TestDotsLongD2(t *testing.T) {
	s := strings.Repeat("/a", api.MaxText/2)
	if got, e := Dots(s); got != s || e != api.OK {
		t.Errorf("of %d bytes: %d bytes, %d", len(s), len(got), e)
	}
	if got, e := Dots(s + "/"); got != "" || e != api.ErrMany {
		t.Errorf("of %d bytes: %q, %d", len(s)+1, got, e)
	}
}

type resolveCase struct{ base, s, want string }

func testResolve(t *testing.T, cases []resolveCase) {
	t.Helper()
	for _, c := range cases {
		if got, e := Resolve(c.base, c.s); got != c.want || e != api.OK {
			t.Errorf("%q in the light of %q is %q, %d; must be %q", c.s, c.base, got, e, c.want)
		}
	}
}

func TestResolveD2(t *testing.T) {
	const base = "http://a/b/c/d;p?q"
	for s, want := range map[string]string{ // RFC 3986, 5.4
		"g:h": "g:h", "g": "http://a/b/c/g", "./g": "http://a/b/c/g", "g/": "http://a/b/c/g/", "/g": "http://a/g", "//g": "http://g",
		"?y": "http://a/b/c/d;p?y", "g?y": "http://a/b/c/g?y", "#s": "http://a/b/c/d;p?q#s", "g#s": "http://a/b/c/g#s", "g?y#s": "http://a/b/c/g?y#s",
		";x": "http://a/b/c/;x", "g;x": "http://a/b/c/g;x", "g;x?y#s": "http://a/b/c/g;x?y#s", "": base, ".": "http://a/b/c/", "./": "http://a/b/c/",
		"..": "http://a/b/", "../": "http://a/b/", "../g": "http://a/b/g", "../..": "http://a/", "../../": "http://a/", "../../g": "http://a/g",
		"../../../g": "http://a/g", "../../../../g": "http://a/g", "/./g": "http://a/g", "/../g": "http://a/g", "g.": "http://a/b/c/g.",
		"..g": "http://a/b/c/..g", "./../g": "http://a/b/g", "./g/.": "http://a/b/c/g/", "g/./h": "http://a/b/c/g/h", "g/../h": "http://a/b/c/h",
		"g;x=1/../y": "http://a/b/c/y", "g?y/../x": "http://a/b/c/g?y/../x", "g#s/../x": "http://a/b/c/g#s/../x", "http:g": "http:g",
	} {
		testResolve(t, []resolveCase{{base, s, want}})
	}
}

func TestResolvePartsD2(t *testing.T) {
	testResolve(t, []resolveCase{
		{"a://h/x?q#f", "s:", "s:"}, // nothing of the base, not even of the same scheme
		{"a://h/x?q#f", "a:y", "a:y"},
		{"a://h/x", "s:/b/../c?d#e", "s:/c?d#e"},
		{"a://h/x", "s://i/b/./c", "s://i/b/c"},
		{"a://h/x?q#f", "//i", "a://i"},
		{"a://h/x?q#f", "//i/b/../c?d#e", "a://i/c?d#e"},
		{"a://h/x?q#f", "//", "a://"},
		{"a://h/x?q#f", "", "a://h/x?q"},
		{"a://h/x?q#f", "#", "a://h/x?q#"},
		{"a://h/x?q#f", "?", "a://h/x?"},
		{"a://h/x?q#f", "?r", "a://h/x?r"},
		{"a://h/x?q#f", "y", "a://h/y"},
		{"a://h/x?q#f", "/y", "a://h/y"},
		{"a://h/x?q#f", "/y?z", "a://h/y?z"},
		{"a://h/b/../c/./d", "", "a://h/c/d"}, // RFC 3986 leaves them
		{"a://h/b/../c/./d?q", "?r#s", "a://h/c/d?r#s"},
		{"a:b/../c", "#s", "a:/c#s"},
		{"A://H/x", "y", "A://H/y"},
	})
}

func TestResolveMergedD2(t *testing.T) {
	testResolve(t, []resolveCase{
		{"a://h", "y", "a://h/y"},
		{"a://h?q", "y", "a://h/y"},
		{"a://h", "../y", "a://h/y"},
		{"a://h", "", "a://h"},
		{"a://", "y", "a:///y"},
		{"a:", "y", "a:y"},
		{"a:", "y/../z", "a:/z"},
		{"a:b", "y", "a:y"},
		{"a:b", "./y:z", "a:y:z"},
		{"a:b/c", "y", "a:b/y"},
		{"a:b/c", "..", "a:/"},
		{"a:/b/c", "y", "a:/b/y"},
		{"a://h/b/", "y", "a://h/b/y"},
		{"a://h/b//c", "../y", "a://h/b/y"},
		{"a://h/b/c", "y//z/..", "a://h/b/y//"},
		{"a://h/b/..", "y", "a://h/b/y"}, // dots go behind merging, not ahead of it
		{"a://h/b/c?x/y", "z", "a://h/b/z"},
	})
}

func TestResolveErrorsD2(t *testing.T) {
	long := "a:" + strings.Repeat("b", api.MaxText-1)
	for _, c := range []struct {
		base, s string
		want    api.Errno
	}{
		{long, "x", api.ErrMany},
		{"a:", long, api.ErrMany},
		{"no", long, api.ErrMany},
		{"", "", api.ErrForm},
		{"no", "a:b", api.ErrForm},
		{"//h/x", "y", api.ErrForm},
		{"1:x", "y", api.ErrForm},
		{" a:b", "y", api.ErrForm},
		{"a:/.//x", "", api.ErrForm}, // it would be a://x, with an authority
		{"a:/.//x", "y", api.ErrForm},
		{"a:b", "/.//x", api.ErrForm},
		{"a:b", "s:/..//x", api.ErrForm},
		{"a:x/..", ".//y", api.OK},
		{"a://h", "/.//x", api.OK},
		{long[:api.MaxText], "x", api.OK},
		{"a:", long[2:], api.ErrForm},          // as long as may be, but not joined
		{long[:api.MaxText], "#", api.ErrForm}, // likewise
		{"a:b", long[:api.MaxText], api.OK},
	} {
		got, e := Resolve(c.base, c.s)
		if e != c.want || (got == "") != (e != api.OK) {
			t.Errorf("%.20q in the light of %.20q is %.20q, %d; must be %d", c.s, c.base, got, e, c.want)
		}
	}
}

// A merged path may be longer than a text that is read, as long as what is left of it is not.
func TestResolveLongD2(t *testing.T) {
	base := "a:" + strings.Repeat("/b", 1400)
	testResolve(t, []resolveCase{
		{base, strings.Repeat("../", 900), "a:" + strings.Repeat("/b", 1400-901) + "/"},
		{base, strings.Repeat("c/../", 500), "a:" + strings.Repeat("/b", 1399) + "/"},
	})
}

func TestSafeD3(t *testing.T) {
	for s, want := range map[string]bool{
		"http:": true, "https:": true, "mailto:": true, "http://h/x": true, "HTTP:x": true, "hTtPs://x": true, "MailTo:a@b": true,
		" http:x": true, "\x00http:x": true, "h\tt\nt\fp\r:x": true, "ht tp\x1f\x0b:x": true, "http:\x7f": true, "http :x": true,
		"": false, "http": false, "x": false, "/http:x": false, "?http:x": false, "#http:x": false, "//http:x": false, "http/:x": false, "http?:": false,
		"javascript:x": false, "data:x": false, "ftp:x": false, "httpx:y": false, "xhttp:y": false, "x http:y": false, "httpss:": false, "mail:": false,
		"java\nscript:http:x": false, "\x7fhttp:x": false, "http\xa0:x": false, "ht\xc2\xa0tp:x": false, "\xef\xbb\xbfhttp:x": false, "htt\u017f:x": false,
		":http:": false, "http\uff1ax": false, "http&#58;x": false,
	} {
		if got, e := Safe(s); got != want || e != api.OK {
			t.Errorf("Safe(%q) is %v, %d", s, got, e)
		}
	}
}

func TestSafeLongD3(t *testing.T) {
	s := "http:" + strings.Repeat(" ", api.MaxText-5)
	if got, e := Safe(s); !got || e != api.OK {
		t.Errorf("of %d bytes: %v, %d", len(s), got, e)
	}
	if got, e := Safe(s + " "); got || e != api.ErrMany {
		t.Errorf("of %d bytes: %v, %d", len(s)+1, got, e)
	}
}

// What is split is joined as it was; a path without dots has none to lose: D4. No call panics: P1.
func TestSplitIsJoinedD4P1P3(t *testing.T) {
	samples.Each([]string{"a", "1", ":", "/", "?", "#", ".", " ", "\xc3"}, 6, func(s string) {
		u, e := Split(s)
		if back, f := Join(u); back != s || e != api.OK || f != api.OK {
			t.Fatalf("%q is split into %+v (%d) and joined as %q (%d)", s, u, e, back, f)
		}
		once, e := Dots(s)
		if twice, f := Dots(once); twice != once || e != api.OK || f != api.OK {
			t.Fatalf("%q without dots is %q, %q, %d, %d", s, once, twice, e, f)
		}
		for _, part := range strings.Split(once, "/") {
			if part == "." || part == ".." {
				t.Fatalf("%q without dots is %q", s, once)
			}
		}
	})
}

// What is joined is split as it was.
func TestJoinedIsSplitD1P1(t *testing.T) {
	parts := []string{"", "a", ":", "/", "//", "?", "#", "a:"}
	samples.Each([]string{"0", "1", "2", "3", "4", "5", "6", "7"}, 5, func(s string) {
		if len(s) < 5 {
			return
		}
		at := func(i int) string { return parts[s[i]-'0'] }
		for has := range 16 {
			u := api.Url{Scheme: at(0), Authority: at(1), Path: at(2), Query: at(3), Fragment: at(4),
				HasScheme: has&1 > 0, HasAuthority: has&2 > 0, HasQuery: has&4 > 0, HasFragment: has&8 > 0}
			joined, e := Join(u)
			if back, f := Split(joined); e == api.OK && (back != u || f != api.OK) || e != api.OK && (e != api.ErrForm || joined != "") {
				t.Fatalf("%+v is joined as %q (%d) and split into %+v (%d)", u, joined, e, back, f)
			}
		}
	})
}

// A link that is resolved has a scheme, and no dots; in the light of any base it is itself.
func TestResolvedStaysD2P1P3(t *testing.T) {
	var links []string
	samples.Each([]string{"a", ":", "/", "?", "#", "."}, 4, func(s string) { links = append(links, s) })
	for _, base := range []string{"a:", "a:b/c", "a:/b/../c", "a://h", "a://h/b/./c?q#f"} {
		for _, s := range links {
			once, e := Resolve(base, s)
			if e != api.OK {
				continue
			}
			if twice, f := Resolve("x://y/z?q", once); twice != once || f != api.OK {
				t.Fatalf("%q in the light of %q is %q, and then %q, %d", s, base, once, twice, f)
			}
		}
	}
}
