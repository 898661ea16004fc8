package model_test

import (
	"math/rand"
	"slices"
	"strings"
	"testing"

	"tabulary/api"
	"tabulary/model"
)

// entry answers an entry of a list whose keys are a, b and c, with values of
// these that stand apart by commas; of - the key isn't there.
func entry(values string) api.Node {
	n := node("l", value("x", "y"))
	for i, s := range strings.Split(values, ",") {
		if s != "-" {
			n.Kids = append(n.Kids, value("abc"[i:i+1], s))
		}
	}
	return n
}

// keyed answers the list of such entries, with its keys in some order.
func keyed(keys string) api.Def {
	return list("l", keys, text("a"), box("in", text("a")), text("b"), text("c"), text("x"))
}

// P14.1: the values of a list's keys, in order.
func TestKey(t *testing.T) {
	for _, c := range []struct {
		keys, values, want string
		ok                 bool
	}{
		{"a", "1", "1", true},
		{"b", "1,2", "2", true},
		{"a b", "1,2", "1,2", true},
		{"b a", "1,2", "2,1", true},
		{"c a b", "1,2,3", "3,1,2", true},
		{"a b c", "1,1,1", "1,1,1", true},
		{"a", "", "", true},
		{"a b", ",", ",", true},
		{"b a", "1,", ",1", true},
		{"a", "-", "", false},
		{"a b", "1,-", "", false},
		{"a b", "-,2", "", false},
		{"b a", "-,2", "", false},
		{"b a", "1,-", "", false},
		{"a b c", "1,2,-", "", false},
		{"a b c", "-,-,-", "", false},
		{"a b", "1", "", false},
	} {
		got, ok := model.Key(keyed(c.keys), entry(c.values))
		if ok != c.ok || strings.Join(got, ",") != c.want || !ok && got != nil {
			t.Errorf("Key(%s, %s): %q, %t", c.keys, c.values, got, ok)
		}
	}
	inner := node("l", node("in", value("a", "1")), value("b", "2"))
	if got, ok := model.Key(keyed("a"), inner); ok || got != nil {
		t.Error("a key of another node's own:", got, ok)
	}
	swapped := node("l", value("c", "3"), value("a", "1"))
	if got, ok := model.Key(keyed("a c"), swapped); !ok || !slices.Equal(got, []string{"1", "3"}) {
		t.Error("keys in the order of the definition:", got, ok)
	}
	if got, ok := model.Key(keyed("a"), api.Node{}); ok || got != nil {
		t.Error("of no nodes:", got, ok)
	}
}

// P14.1: what is no list has no keys.
func TestKeyOfOthers(t *testing.T) {
	for _, d := range []api.Def{text("l"), must(number("l")), enum("l", "a"), box("l", text("a")), box("l", list("a", "k", text("k"))), {Name: "l", Kind: api.Container, Keys: []string{"a", "z"}}, {Name: "l", Kind: api.Leaf, Keys: []string{"a", "z"}}} {
		for _, n := range []api.Node{{}, value("l", "1"), entry("1,2,3"), node("l", node("a", value("k", "1")))} {
			if got, ok := model.Key(d, n); !ok || len(got) > 0 {
				t.Errorf("Key(%v, %v): %q, %t", d, n, got, ok)
			}
		}
	}
}

// P14.1: the node that is the same one.
func TestSame(t *testing.T) {
	other := node("m", value("a", "1"), value("b", "2"), value("c", "3"))
	l := []api.Node{value("leaf", "1"), node("box", value("a", "1")), other, entry("1,2,3"), entry("1,2,4"), entry("2,1,3"), entry(",2,3"), entry("12,,3"), entry("1,2,3")}
	for _, c := range []struct {
		d    api.Def
		n    api.Node
		want int
	}{
		{text("leaf"), value("leaf", "1"), 0},
		{text("leaf"), value("leaf", "2"), 0},
		{text("leaf"), value("leaf", ""), 0},
		{text("Leaf"), value("Leaf", "1"), -1},
		{text("a"), value("a", "1"), -1},
		{box("box", text("a")), node("box"), 1},
		{box("box", text("a")), node("box", value("a", "2")), 1},
		{box("bo", text("a")), node("bo", value("a", "1")), -1},
		{keyed("a b c"), entry("1,2,3"), 3},
		{keyed("c b a"), entry("1,2,3"), 3},
		{keyed("a b c"), entry("1,2,4"), 4},
		{keyed("a b c"), entry("2,1,3"), 5},
		{keyed("a b"), entry("2,1,9"), 5},
		{keyed("b"), entry("9,1,9"), 5},
		{keyed("a b"), entry("1,2,9"), 3},
		{keyed("c"), entry("9,9,4"), 4},
		{keyed("a"), entry("2,9,9"), 5},
		{keyed("a"), entry(""), 6},
		{keyed("a b c"), entry(",2,3"), 6},
		{keyed("a b c"), entry("12,,3"), 7},
		{keyed("a b c"), entry(",12,3"), -1},
		{keyed("a b c"), entry("1,2,5"), -1},
		{keyed("a b c"), entry("1,2,"), -1},
		{keyed("a b c"), entry("3,2,1"), -1},
		{keyed("a b c"), entry("1, 2,3"), -1},
		{list("m", "a b c", text("a"), text("b"), text("c")), other, 2},
	} {
		if got := model.Same(c.d, l, c.n); got != c.want {
			t.Errorf("Same(%v, %v): %d, want %d", c.d, c.n, got, c.want)
		}
		if got := model.Same(c.d, nil, c.n); got != -1 {
			t.Errorf("Same(%v, nil, %v): %d", c.d, c.n, got)
		}
	}
}

// P14.1: an entry without one of its keys is the same one as no other.
func TestSameWithoutKeys(t *testing.T) {
	l := []api.Node{entry("-,2"), entry("1,-"), entry("-,-"), entry(",2"), entry("1,2")}
	for values, want := range map[string]int{"-,2": -1, "1,-": -1, "-,-": -1, "-,": -1, ",2": 3, "1,2": 4, "1,": -1, ",": -1} {
		if got := model.Same(keyed("a b"), l, entry(values)); got != want {
			t.Errorf("Same(%s): %d, want %d", values, got, want)
		}
	}
	if got := model.Same(keyed("a"), l, entry("1,3")); got != 1 {
		t.Error("an entry that has the key:", got)
	}
}

// inOrder fails the test unless nodes, shuffled, come to stand as they do here.
func inOrder(t *testing.T, l []api.Def, want ...api.Node) {
	t.Helper()
	rnd := rand.New(rand.NewSource(int64(len(want))))
	for range 40 {
		nodes := nodesAnew(want)
		rnd.Shuffle(len(nodes), func(i, j int) { nodes[i], nodes[j] = nodes[j], nodes[i] })
		model.Order(l, nodes)
		if !alike(nodes, want) {
			t.Fatalf("Order: %v, want %v", nodes, want)
		}
	}
}

// P14.1: nodes stand as their definitions do, whatever their names and values.
func TestOrderOfDefinitions(t *testing.T) {
	l := []api.Def{text("z"), box("b", text("y"), text("x")), text("a"), list("m", "k", text("k")), text("B"), number("_")}
	inOrder(t, l, value("z", "9"), node("b", value("y", "")), value("a", "1"), node("m", value("k", "2")), node("m", value("k", "3")), value("B", "0"), value("_", "-1"))
	inOrder(t, l, value("a", "2"), value("_", "1"))
	inOrder(t, l, value("z", ""))
	inOrder(t, l)
	var all []api.Node
	for _, d := range leaves(32) {
		all = append(all, value(d.Name, "x"))
	}
	inOrder(t, leaves(32), all...)
}

// P14.1: a list's entries stand by their keys' values, one key behind the other,
// as bytes.
func TestOrderOfEntries(t *testing.T) {
	for keys, values := range map[string]string{
		"a":     " ; ;  ; !;!;-1;0;00;1;10;100;1a;2;9;A;Z;Za;_;a;a ;a0;aa;ab;b;z;~;~~",
		"a b":   ",;,~;a,;a,a;a,b;a,bc;a,z;ab,;ab,a;ab,c;b,a;b,aa",
		"b a":   ",,;b,,;a,a,;b,a,;,aa,;a,aa,;a,b,;0,c,",
		"c a b": "2,1,;1,10,0;1,2,0;1,9,0;10,0,0;9,1,0;0,0,1;0,0,10;0,0,2",
	} {
		var want []api.Node
		for _, s := range slices.Compact(strings.Split(values, ";")) {
			want = append(want, entry(s))
		}
		l := []api.Def{text("x"), keyed(keys), text("y")}
		inOrder(t, l, want...)
		inOrder(t, l, append(append([]api.Node{value("x", "m")}, want...), value("y", "m"))...)
	}
}

// P14.1: two lists of the same entries stand apart.
func TestOrderOfLists(t *testing.T) {
	l := []api.Def{list("q", "k", text("k")), text("m"), list("p", "k", text("k"))}
	inOrder(t, l, node("q", value("k", "2")), node("q", value("k", "4")), value("m", "3"), node("p", value("k", "1")), node("p", value("k", "3")), node("p", value("k", "5")))
}

// P14.1: what stands in nodes isn't put in order, and what stands behind the list
// stays.
func TestOrderOfNoMore(t *testing.T) {
	l := []api.Def{text("a"), box("b", text("x"), text("y")), list("c", "k", text("k"), text("x"))}
	all := []api.Node{node("c", value("x", "1"), value("k", "2")), node("b", value("y", "1"), value("x", "2")), value("a", "3"), value("a", "behind"), value("0", "behind")}
	model.Order(l, all[:3])
	want := []api.Node{value("a", "3"), node("b", value("y", "1"), value("x", "2")), node("c", value("x", "1"), value("k", "2")), value("a", "behind"), value("0", "behind")}
	if !alike(all, want) {
		t.Errorf("%v", all)
	}
	model.Order(l, nil)
	model.Order(nil, nil)
}

// P0: nodes of no definition, and entries without their keys.
func TestOrderOfAnything(t *testing.T) {
	l := []api.Def{text("a"), keyed("a b")}
	nodes := []api.Node{value("?", "1"), entry("-,2"), value("", ""), entry("1,-"), value("a", "1"), node("?", value("a", "1")), entry("2,1"), {}, entry("-,-")}
	for range 50 {
		rand.New(rand.NewSource(1)).Shuffle(len(nodes), func(i, j int) { nodes[i], nodes[j] = nodes[j], nodes[i] })
		count := len(nodes)
		model.Order(l, nodes)
		model.Order(nil, nodes)
		if len(nodes) != count || slices.IndexFunc(nodes, func(n api.Node) bool { return n.Name == "a" }) < 0 {
			t.Fatal(nodes)
		}
	}
}
