package nodes

import (
	"fmt"
	"slices"
	"strings"
	"testing"

	"marginalia/api"
)

func el(name string, kids ...api.Node) api.Node { return api.Node{Name: name, Kids: kids} }

func text(s string) api.Node { return api.Node{Text: s} }

func list(l ...api.Node) []api.Node { return l }

func TestWalk(t *testing.T) {
	l := list(el("a", el("b", text("c")), el("d")), text("e"))
	for most, want := range []string{"0 of 2 in 0: a", "0 of 2 in 1: b", "0 of 1 in 2: c", "1 of 2 in 1: d", "1 of 2 in 0: e", ""} {
		var last string
		count := 0
		whole := Walk(l, func(beside []api.Node, at int, around []api.Node) bool {
			n := beside[at]
			last = fmt.Sprintf("%d of %d in %d: %s", at, len(beside), len(around), n.Name+n.Text)
			count++
			return count <= most
		})
		if want != "" && (last != want || whole) || want == "" && !whole {
			t.Errorf("ended at node %d: %q, to the end: %v; must be %q", most, last, whole, want)
		}
	}
}

func TestCheck(t *testing.T) {
	seen := ""
	check := func(beside []api.Node, at int, around []api.Node) api.Errno {
		seen += beside[at].Name
		if beside[at].Name == "x" {
			return api.ErrRange
		}
		return api.OK
	}
	for _, c := range []struct {
		l    []api.Node
		seen string
		want api.Errno
	}{
		{nil, "", api.OK},
		{list(el("a", el("b")), el("c")), "abc", api.OK},
		{list(el("a", el("x")), el("c")), "ax", api.ErrRange},
		{list(el("x", el("x"))), "x", api.ErrRange},
		{slices.Repeat(list(text("")), api.MaxText), "", api.OK},
		{append(list(el("x")), slices.Repeat(list(text("")), api.MaxText)...), "", api.ErrMany},
	} {
		seen = ""
		if e := Check(c.l, check); e != c.want || seen != c.seen {
			t.Errorf("%d of %d nodes, seen were %q; must be %d, %q", e, len(c.l), seen, c.want, c.seen)
		}
	}
}

func TestCheckDeep(t *testing.T) {
	right := func([]api.Node, int, []api.Node) api.Errno { return api.OK }
	n := text("a")
	for depth := 1; depth <= api.MaxDepth+2; depth++ {
		n = el("b", n)
		if e := Check(list(n), right); (e == api.OK) != (depth <= api.MaxDepth) || e != api.OK && e != api.ErrMany {
			t.Errorf("%d deep: %d", depth, e)
		}
	}
}

func TestCheckAttrs(t *testing.T) {
	isName := func(s string) bool { return strings.HasPrefix(s, "n") }
	for names, want := range map[string]api.Errno{
		"n": api.OK, "n m": api.ErrForm, "n na": api.OK, "n na n": api.ErrTwice, "n n m": api.ErrTwice, "n m n": api.ErrForm,
	} {
		var l []api.Attr
		for _, s := range strings.Fields(names) {
			l = append(l, api.Attr{Name: s})
		}
		if e := CheckAttrs(l, isName); e != want {
			t.Errorf("of %s: %d, must be %d", names, e, want)
		}
	}
}

func TestList(t *testing.T) {
	var none List
	if l := none.All(); len(l) != 0 {
		t.Errorf("nothing was put: %v", l)
	}
	var l List
	l.Put()
	l.Put(text(""), text("a"), text(""))
	l.Put(text("b"), el("c", text("d")), text(""), el("e"))
	l.Put(text("f"))
	l.Put(text("g"))
	if got := fmt.Sprint(l.All()); got != fmt.Sprint(list(text("ab"), el("c", text("d")), el("e"), text("fg"))) {
		t.Errorf("put were %s", got)
	}
}

// Texts that are put later do not change those that were told.
func TestListTextsAreOwn(t *testing.T) {
	var l List
	l.Put(text("aa"), el("b"), text("cc"), el("b"), text("dd"))
	if got := fmt.Sprint(l.All()); got != fmt.Sprint(list(text("aa"), el("b"), text("cc"), el("b"), text("dd"))) {
		t.Errorf("put were %s", got)
	}
}
