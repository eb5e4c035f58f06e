package scan

import "testing"

func TestPass(t *testing.T) {
	in := New("aab")
	if s := in.Pass(func(c byte) bool { return c == 'a' }); s != "aa" {
		t.Errorf("passed %q", s)
	}
	if !in.Begins("b") || in.Begins("bc") || in.Begins("a") {
		t.Error("what is left begins with b alone")
	}
	if s := in.Pass(func(c byte) bool { return true }); s != "b" || !in.Done() {
		t.Errorf("passed %q, up to the end: %v", s, in.Done())
	}
}

func TestAhead(t *testing.T) {
	in := New("<A")
	in.One()
	for n, want := range []bool{true, false, false} {
		if in.Ahead(n, Letter) != want {
			t.Errorf("a letter %d bytes on: %v", n, !want)
		}
	}
}

func TestRest(t *testing.T) {
	in := New("abc")
	in.One()
	if s := in.Rest(); s != "bc" || !in.Done() || in.Rest() != "" {
		t.Errorf("the rest is %q", s)
	}
}

func TestPassed(t *testing.T) {
	in := New("abc")
	if in.Passed("b") || in.Passed("abcd") || !in.Passed("") || !in.Passed("ab") || in.Passed("ab") {
		t.Error("ab alone is to be passed")
	}
	if s := in.Rest(); s != "c" || in.Passed("c") || !in.Passed("") {
		t.Errorf("%q is left, up to the end", s)
	}
}

func TestMust(t *testing.T) {
	in := New("abc")
	if !in.Try(func() { in.Must(""); in.Must("ab") }) || in.Rest() != "c" {
		t.Error("ab is to be passed")
	}
}

func TestTryGivesUp(t *testing.T) {
	for name, read := range map[string]func(in *Text){
		"Peek":   func(in *Text) { in.Rest(); in.Peek() },
		"One":    func(in *Text) { in.Rest(); in.One() },
		"PassTo": func(in *Text) { in.One(); in.PassTo("x") },
		"Must":   func(in *Text) { in.One(); in.Must("cd") },
		"GiveUp": func(in *Text) { in.One(); GiveUp() },
	} {
		in := New("abc")
		in.One()
		if in.Try(func() { read(in) }) {
			t.Errorf("%s did not give up", name)
		}
		if s := in.Rest(); s != "bc" {
			t.Errorf("%s: behind it %q is left", name, s)
		}
	}
}

func TestTryDone(t *testing.T) {
	in := New("a-->b")
	ahead := ""
	if !in.Try(func() { ahead = in.PassTo("-->") }) || ahead != "a" {
		t.Errorf("gave up, or passed %q", ahead)
	}
	if s := in.Rest(); s != "b" {
		t.Errorf("%q is left", s)
	}
}

func TestTryInTry(t *testing.T) {
	in := New("ab")
	inner := true
	outer := in.Try(func() {
		in.One()
		inner = in.Try(GiveUp)
	})
	if inner || !outer || in.Rest() != "b" {
		t.Errorf("inner %v, outer %v", inner, outer)
	}
}

func TestTryKeepsOtherPanics(t *testing.T) {
	defer func() {
		if v := recover(); v != "other" {
			t.Errorf("recovered %v", v)
		}
	}()
	New("").Try(func() { panic("other") })
	t.Error("the panic is lost")
}

func TestBytes(t *testing.T) {
	for i := 0; i < 256; i++ {
		c := byte(i)
		small, digit := c >= 'a' && c <= 'z', c >= '0' && c <= '9'
		great := c >= 'A' && c <= 'Z'
		if Small(c) != small || Digit(c) != digit || Letter(c) != (small || great) {
			t.Errorf("byte %d: small %v, digit %v, letter %v", i, Small(c), Digit(c), Letter(c))
		}
		want := string([]byte{c})
		if great {
			want = string([]byte{c + 32})
		}
		if got := Lower(string([]byte{c})); got != want {
			t.Errorf("byte %d in small letters: %q", i, got)
		}
	}
	if s := Lower("\u212Aa\u00C4B"); s != "\u212Aa\u00C4b" {
		t.Errorf("other letters are changed: %q", s)
	}
}
