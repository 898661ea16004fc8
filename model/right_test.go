package model_test

import (
	"slices"
	"strconv"
	"strings"
	"testing"

	"tabulary/api"
	"tabulary/model"
)

// right fails the test unless Right answers this, and so does what is reckoned
// apart.
func right(t *testing.T, want bool, l ...api.Def) {
	t.Helper()
	before := defsAnew(l)
	if got := model.Right(l); got != want || rightApart(l) != want {
		t.Errorf("Right(%v): %t, apart %t, want %t", l, got, rightApart(l), want)
	}
	if !alikeDefs(l, before) {
		t.Errorf("Right changed %v", before)
	}
}

// everywhere fails the test unless Right answers this of a definition wherever it
// stands.
func everywhere(t *testing.T, want bool, d api.Def) {
	t.Helper()
	right(t, want, d)
	right(t, want, text("other"), d, text("another"))
	right(t, want, box("in", text("other"), d))
	right(t, want, box("beside", text("a")), list("in", "k", text("k"), d))
	right(t, want, list("in", "k", box("deeper", d), text("k")))
}

// P14.1: schemas of all kinds of definitions.
func TestRight(t *testing.T) {
	right(t, true)
	if !model.Right([]api.Def{}) {
		t.Error("a schema without definitions")
	}
	for _, d := range []api.Def{
		text("a"), number("a"), flag("a"), enum("a", "b"), must(text("a")), must(enum("a", "b", "c")),
		box("a", text("a")), box("a", box("a", text("a"))), box("a", list("a", "a", text("a"))),
		list("a", "a", text("a")), list("a", "b", text("a"), number("b")), list("a", "b a", text("a"), text("b")), list("a", "c a b", text("a"), flag("b"), enum("c", "x")),
		list("a", "k", must(text("k")), box("b", text("k")), list("c", "k", text("k"))),
	} {
		everywhere(t, true, d)
	}
}

// P14.1: names of definitions, of an enum's values and of keys.
func TestRightNames(t *testing.T) {
	for _, name := range []string{"a", "Z", "_", "a1", "a-b.c_d", "xml", "config", "-a", "1", ".", "", " ", "a b", "a:b", "a\n", "\x00", "é", "a\x80", "a/b", strings.Repeat("n", 32), strings.Repeat("n", 33), strings.Repeat("n", 1000)} {
		ok := rightName.MatchString(name)
		everywhere(t, ok, text(name))
		everywhere(t, ok, enum("a", name))
		everywhere(t, ok, enum("a", "b", name, "c"))
		everywhere(t, ok, box(name, text("a")))
		everywhere(t, ok, list(name, "k", text("k")))
		everywhere(t, ok, api.Def{Name: "a", Kind: api.List, Keys: []string{name}, Kids: []api.Def{text(name)}})
	}
	for i := range 256 {
		name := string([]byte{byte(i)})
		right(t, rightName.MatchString(name), text(name))
		right(t, rightName.MatchString("a"+name), text("a"+name))
	}
}

// P14.1: no two definitions beside each other have the same name, whatever they
// are.
func TestRightAlike(t *testing.T) {
	kinds := []api.Def{text("a"), number("a"), enum("a", "x"), box("a", text("b")), list("a", "k", text("k"))}
	for _, d := range kinds {
		for _, other := range kinds {
			right(t, false, d, other)
			right(t, false, d, text("b"), other)
			right(t, false, text("b"), d, text("c"), other, text("d"))
			right(t, false, box("in", d, other))
			right(t, false, list("in", "k", d, text("k"), other))
			right(t, true, d, box("in", other))
			right(t, true, box("b", d), box("c", other))
			other.Name = "A"
			right(t, true, d, other)
		}
	}
	right(t, true, enum("a", "x", "x"), enum("b", "a", "b"))
}

// P14.1: what a kind must have, and what it must not.
func TestRightKinds(t *testing.T) {
	for _, kind := range []int{-1, 0, 4, 5, 1 << 40} {
		for _, d := range []api.Def{text("a"), box("a", text("b")), list("a", "k", text("k"))} {
			d.Kind = kind
			everywhere(t, false, d)
		}
	}
	everywhere(t, false, box("a"))
	everywhere(t, false, api.Def{Name: "a", Kind: api.Container, Kids: []api.Def{}})
	everywhere(t, false, api.Def{Name: "a", Kind: api.Container, Keys: []string{"b"}, Kids: []api.Def{text("b")}})
	everywhere(t, false, api.Def{Name: "a", Kind: api.Leaf, Keys: []string{"b"}})
	everywhere(t, false, api.Def{Name: "a", Kind: api.Leaf, Keys: []string{"a"}})
	everywhere(t, false, api.Def{Name: "a", Kind: api.Leaf, Kids: []api.Def{text("b")}})
	everywhere(t, false, api.Def{Name: "a", Kind: api.Leaf, Keys: []string{"b"}, Kids: []api.Def{text("b")}})
	everywhere(t, true, api.Def{Name: "a", Kind: api.Leaf, Keys: []string{}, Kids: []api.Def{}, Values: []string{}})
	everywhere(t, true, api.Def{Name: "a", Kind: api.Container, Keys: []string{}, Kids: []api.Def{text("b")}})
}

// P14.1: what isn't named of a kind isn't looked at.
func TestRightRest(t *testing.T) {
	for _, d := range []api.Def{box("a", text("b")), list("a", "k", text("k"))} {
		for _, kind := range []int{-1, 0, 1, 2, 3, 4, 1 << 40} {
			for _, values := range [][]string{nil, {"b"}, {"b", "b"}, {""}, {"1", " "}, slices.Repeat([]string{"b"}, 33)} {
				d.Type, d.Values, d.Must = kind, values, !d.Must
				everywhere(t, true, d)
			}
		}
	}
	for _, d := range []api.Def{text("a"), number("a"), flag("a"), enum("a", "b")} {
		everywhere(t, true, must(d))
		everywhere(t, true, list("l", "a", must(d)))
	}
}

// P14.1: the keys of a list.
func TestRightKeys(t *testing.T) {
	for keys, ok := range map[string]bool{
		"": false, "a": true, "b": true, "c": true, "d": true, "a b": true, "b a": true, "a b c": true, "c b a": true, "d a c": true, "a b c d": false,
		"a a": false, "a b a": false, "a a b": false, "b a a": false, "a a a": false, "a b c a": false,
		"box": false, "list": false, "a box": false, "box a": false, "a b list": false, "x": false, "a x": false, "x a": false, "a b x": false, "A": false, "in": false, "k": false,
	} {
		everywhere(t, ok, list("l", keys, text("a"), number("b"), flag("c"), enum("d", "x"), box("box", text("in"), text("box")), list("list", "k", text("k"))))
	}
	for _, keys := range [][]string{{""}, {"a", ""}, {"", "a"}, {"a b"}, {" a"}, {"a", "b", "c", ""}, slices.Repeat([]string{"a"}, 1000)} {
		everywhere(t, false, api.Def{Name: "l", Kind: api.List, Keys: keys, Kids: []api.Def{text("a"), text("b"), text("c")}})
	}
	everywhere(t, false, list("l", ""))
	everywhere(t, false, list("l", "k"))
	everywhere(t, false, list("l", "l"))
	everywhere(t, false, list("l", "k", box("k", text("k"))))
	everywhere(t, false, box("k", text("k"), list("l", "k", text("a"))))
}

// P14.1: the types of leaves, and their values.
func TestRightTypes(t *testing.T) {
	for kind := -2; kind <= 6; kind++ {
		for n := range 36 {
			d := api.Def{Name: "a", Kind: api.Leaf, Type: kind}
			for i := range n {
				d.Values = append(d.Values, "v"+strconv.Itoa(i))
			}
			ok := kind == api.TypeEnum && n >= 1 && n <= 32 || kind >= 0 && kind < api.TypeEnum && n == 0
			everywhere(t, ok, d)
			everywhere(t, ok, list("l", "a", d))
		}
	}
	for _, kind := range []int{1 << 40, -1 << 40, 256, 259} {
		everywhere(t, false, api.Def{Name: "a", Kind: api.Leaf, Type: kind})
		everywhere(t, false, api.Def{Name: "a", Kind: api.Leaf, Type: kind, Values: []string{"b"}})
	}
}

// leaves answers n leaves.
func leaves(n int) []api.Def {
	var l []api.Def
	for i := range n {
		l = append(l, text("n"+strconv.Itoa(i)))
	}
	return l
}

// P14.1: up to 32 definitions stand beside each other.
func TestRightSize(t *testing.T) {
	for _, n := range []int{1, 2, 31, 32, 33, 34, 100} {
		right(t, n <= 32, leaves(n)...)
		right(t, n <= 32, box("a", leaves(n)...))
		right(t, n <= 32, list("a", "n0", leaves(n)...))
		right(t, n <= 32, list("a", "n"+strconv.Itoa(n-1), leaves(n)...))
		right(t, n <= 32, text("x"), box("b", box("a", leaves(n)...)))
	}
	l := leaves(32)
	for i := range l {
		l[i] = box(l[i].Name, leaves(32)...)
	}
	right(t, true, l...)
	l[31].Kids = leaves(33)
	right(t, false, l...)
}

// nested answers a definition in so many others of both kinds.
func nested(n int, d api.Def) api.Def {
	for i := range n {
		if i%2 == 0 {
			d = box("b", d)
		} else {
			d = list("l", "k", text("k"), d)
		}
	}
	return d
}

// P14.1: definitions are ten deep at most.
func TestRightDepth(t *testing.T) {
	for n := range 14 {
		right(t, n <= 9, nested(n, text("x")))
		right(t, n <= 9, text("y"), nested(n, must(number("x"))))
		right(t, n <= 8, nested(n, box("x", text("x"))))
		right(t, n <= 8, nested(n, list("x", "x", text("x"))))
		right(t, false, nested(n, box("x")))
		right(t, false, nested(n, list("x", "x")))
		right(t, false, nested(n, api.Def{Name: "x", Kind: api.Leaf, Kids: []api.Def{text("x")}}))
	}
}

// P14.1: the place of a definition.
func TestFind(t *testing.T) {
	l := []api.Def{text("a"), box("b", text("in")), list("c", "k", text("k")), number("D")}
	for name, want := range map[string]int{"a": 0, "b": 1, "c": 2, "D": 3, "d": -1, "A": -1, "": -1, "in": -1, "k": -1, "aa": -1, "a ": -1, " a": -1, "a\x00": -1} {
		if got := model.Find(l, name); got != want {
			t.Errorf("Find(%q): %d, want %d", name, got, want)
		}
		if got := model.Find(nil, name); got != -1 {
			t.Errorf("Find(nil, %q): %d", name, got)
		}
	}
	for i, d := range leaves(32) {
		if got := model.Find(leaves(32), d.Name); got != i {
			t.Errorf("Find(%q): %d, want %d", d.Name, got, i)
		}
	}
}
