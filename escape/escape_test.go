package escape

import (
	"fmt"
	"strings"
	"testing"

	"marginalia/api"
	"marginalia/samples"
)

func TestPutA1(t *testing.T) {
	for s, want := range map[string]string{
		"":                   "",
		"plain 'text'\n\t":   "plain 'text'\n\t",
		`&<>"`:               "&amp;&lt;&gt;&quot;",
		"&amp;&#65;":         "&amp;amp;&amp;#65;",
		"a<b>\xff\x00\u20ac": "a&lt;b&gt;\xff\x00\u20ac",
	} {
		if got, e := Put(s); got != want || e != api.OK {
			t.Errorf("Put(%q) = %q, %d; must be %q", s, got, e, want)
		}
	}
	for i := 0; i < 256; i++ {
		s := string([]byte{byte(i)})
		got, e := Put(s)
		if e != api.OK || !strings.Contains(`&<>"`, s) && got != s {
			t.Errorf("Put of byte %d = %q, %d", i, got, e)
		}
	}
}

func TestTakeA1(t *testing.T) {
	const bad = "\uFFFD"
	for _, c := range []struct {
		s, want string
		right   bool // may Strict take it too?
	}{
		{"", "", true},
		{"a;b#c'\"<>", "a;b#c'\"<>", true},
		{"&amp;&lt;&gt;&quot;&apos;", "&<>\"'", true},
		{"&amp;amp;", "&amp;", true},
		{"&amp;&", "&&", false},
		{"&", "&", false},
		{"&;", "&;", false},
		{"&amp", "&amp", false},
		{"&AMP;", "&AMP;", false},
		{"& amp;", "& amp;", false},
		{"&amp ;", "&amp ;", false},
		{"&ampx;", "&ampx;", false},
		{"&nbsp;", "&nbsp;", false},
		{"&&amp;;", "&&;", false},
		{"&am&lt;p;", "&am<p;", false},
		{"&#9;&#65;&#8364;", "\tA\u20ac", true},
		{"&#0000065;", "A", true},
		{"&#00000065;", "&#00000065;", false},
		{"&#x41;&#x20ac;&#x20AC;&#x1f600;", "A\u20ac\u20ac\U0001F600", true},
		{"&#x000041;", "A", true},
		{"&#x0000041;", "&#x0000041;", false},
		{"&#X41;", "&#X41;", false},
		{"&#;", "&#;", false},
		{"&#x;", "&#x;", false},
		{"&#4a;", "&#4a;", false},
		{"&#x4g;", "&#x4g;", false},
		{"&#+65;", "&#+65;", false},
		{"&#-65;", "&#-65;", false},
		{"&# 65;", "&# 65;", false},
		{"&#6_5;", "&#6_5;", false},
		{"&#65", "&#65", false},
		{"&#65&#66;", "&#65B", false},
		{"&#0;", bad, false},
		{"&#0000000;", bad, false},
		{"&#x0;", bad, false},
		{"&#xD7FF;&#xE000;", "\uD7FF\uE000", true},
		{"&#xD800;", bad, false},
		{"&#xdfff;", bad, false},
		{"&#x10FFFF;", "\U0010FFFF", true},
		{"&#x110000;", bad, false},
		{"&#9999999;", bad, false},
		{"&#xFFFFFF;", bad, false},
		{"&#xFFFD;&#65533;", bad + bad, true},
		{"&#38;lt;", "&lt;", true},
		{"\xff\x00&#255;", "\xff\x00\u00ff", true},
	} {
		if got, e := Take(c.s); got != c.want || e != api.OK {
			t.Errorf("Take(%q) = %q, %d; must be %q", c.s, got, e, c.want)
		}
		want, wantE := c.want, api.OK
		if !c.right {
			want, wantE = "", api.ErrForm
		}
		if got, e := Strict(c.s); got != want || e != wantE {
			t.Errorf("Strict(%q) = %q, %d; must be %q, %d", c.s, got, e, want, wantE)
		}
	}
}

func TestCodePointsA1(t *testing.T) {
	for code := 0; code <= 0x110010; code++ {
		right := code != 0 && code <= 0x10FFFF && (code < 0xD800 || code > 0xDFFF)
		want, wantS, wantE := "\uFFFD", "", api.ErrForm
		if right {
			want = string(rune(code))
			wantS, wantE = want, api.OK
		}
		s := fmt.Sprintf("&#%d;", code)
		if code%2 == 1 {
			s = fmt.Sprintf("&#x%x;", code)
		}
		got, e := Take(s)
		gotS, eS := Strict(s)
		if got != want || e != api.OK || gotS != wantS || eS != wantE {
			t.Fatalf("%s: %q %d, %q %d", s, got, e, gotS, eS)
		}
	}
}

func TestLongA1(t *testing.T) {
	calls := map[string]func(string) (string, api.Errno){"Put": Put, "Take": Take, "Strict": Strict}
	for name, call := range calls {
		for _, n := range []int{api.MaxText - 1, api.MaxText} {
			s := strings.Repeat("a", n)
			if got, e := call(s); got != s || e != api.OK {
				t.Errorf("%s of %d bytes: %d bytes, %d", name, n, len(got), e)
			}
		}
		// A & that tells nothing is wrong too, but how long it is comes first.
		s := strings.Repeat("&", api.MaxText+1)
		if got, e := call(s); got != "" || e != api.ErrMany {
			t.Errorf("%s of %d bytes: %q, %d", name, len(s), got, e)
		}
	}
	if got, e := Put(strings.Repeat(`"`, api.MaxText)); got != strings.Repeat("&quot;", api.MaxText) || e != api.OK {
		t.Errorf("Put of %d signs: %d bytes, %d", api.MaxText, len(got), e)
	}
	if got, e := Take(strings.Repeat("&", api.MaxText)); got != strings.Repeat("&", api.MaxText) || e != api.OK {
		t.Errorf("Take of %d signs: %d bytes, %d", api.MaxText, len(got), e)
	}
}

func TestPutIsTakenA2(t *testing.T) {
	signs := []string{"&", "amp", "lt", "#", "x", "4", "1", ";", "<", ">", `"`, "'", "\xff", "\x00", "&quot;"}
	samples.Each(signs, 4, func(s string) {
		p, e := Put(s)
		a, f := Take(p)
		b, g := Strict(p)
		if a != s || b != s || e != api.OK || f != api.OK || g != api.OK {
			t.Fatalf("%q: put %q %d, taken %q %d, strictly %q %d", s, p, e, a, f, b, g)
		}
		if strings.ContainsAny(p, `<>"`) {
			t.Fatalf("%q is put as %q", s, p)
		}
	})
}

// What Strict takes is what Take takes; else it answers nothing (P1). Asked again, all is the same (P3).
func TestStrictIsTakeA1P1P3(t *testing.T) {
	signs := []string{"&", "amp", "#", "x", "0", "9", "f", "F", ";", "g", "\x80"}
	samples.Each(signs, 5, func(s string) {
		a, e := Take(s)
		b, f := Strict(s)
		if e != api.OK || f == api.OK && a != b || f != api.OK && (b != "" || f != api.ErrForm) {
			t.Fatalf("%q: %q %d, strictly %q %d", s, a, e, b, f)
		}
		if f != api.OK && !strings.Contains(s, "&") {
			t.Fatalf("%q: nothing is told there, strictly %d", s, f)
		}
		if again, _ := Take(s); again != a {
			t.Fatalf("%q: %q, then %q", s, a, again)
		}
	})
}
