package model_test

import (
	"slices"
	"testing"

	"tabulary/api"
	"tabulary/model"
	"tabulary/xml"
)

// tree is a tree of town, in order.
func tree() []api.Node {
	return []api.Node{
		value("name", "n"),
		node("port", value("speed", "1"), value("name", "a"), node("at", value("side", "left"))),
		node("port", value("speed", "1"), value("name", "b"), node("at", value("side", "left"))),
		node("box", value("color", "red"), node("item", value("x", "1"), value("y", "2"))),
	}
}

// scribble writes over all nodes, and into the room behind each list.
func scribble(l []api.Node) {
	for i := range l {
		scribble(l[i].Kids)
		l[i].Name, l[i].Value = "!", "!"
	}
	if len(l) < cap(l) {
		_ = append(l, value("!", "!"))
	}
}

// scribbleElems does the same to elements.
func scribbleElems(l []api.Elem) {
	for i := range l {
		scribbleElems(l[i].Kids)
		l[i].Space, l[i].Name, l[i].Text = "!", "!", "!"
		_ = append(l[i].Attrs, api.Attr{Name: "!"})
	}
	if len(l) < cap(l) {
		_ = append(l, saying("!", "!"))
	}
}

// roomy answers the same nodes in lists with room behind them.
func roomy(l []api.Node) []api.Node {
	l = append(slices.Clone(l), value("room", "1"), value("room", "2"))[:len(l)]
	for i := range l {
		l[i].Kids = roomy(l[i].Kids)
	}
	return l
}

// rooms tells whether the room behind each list is as roomy left it.
func rooms(l []api.Node) bool {
	if behind := l[len(l) : len(l)+2]; behind[0].Value != "1" || behind[1].Value != "2" {
		return false
	}
	return !slices.ContainsFunc(l, func(n api.Node) bool { return !rooms(n.Kids) })
}

// Rule 4: what is handed in stays, and what is answered is new memory, in which
// no two lists share any.
func TestCopySharesNothing(t *testing.T) {
	l := roomy(tree())
	first, second := model.Copy(l), model.Copy(l)
	if !alike(first, tree()) {
		t.Error(first)
	}
	for i := range first {
		kids := first[i].Kids
		first[i].Kids = append(kids, value("more", ""))
		scribble(kids)
		for j := i + 1; j < len(first); j++ {
			if !alike(first[j:], tree()[j:]) {
				t.Error("two lists of one answer share memory:", first)
			}
		}
	}
	scribble(first)
	if !alike(l, tree()) || !rooms(l) || !alike(second, tree()) {
		t.Error("a copy shares memory:", l, second)
	}
	third := model.Copy(l)
	scribble(l)
	if !alike(third, tree()) {
		t.Error("a copy keeps what was handed in:", third)
	}
	if !alike(model.Copy(third[:2]), tree()[:2]) || len(model.Copy(nil)) != 0 || len(model.Copy([]api.Node{})) != 0 {
		t.Error("a copy of a part")
	}
}

// Rule 4: of nodes as elements, and of the calls that only look.
func TestElemsShareNothing(t *testing.T) {
	l := roomy(tree())
	want := anew(model.Elems(l, "u"))
	first, second := model.Elems(l, "u"), model.Elems(l, "u")
	scribbleElems(first[1].Kids)
	first[1].Kids = append(first[1].Kids, saying("more", ""))
	if !alikeElems(first[2:], want[2:]) || !alikeElems(first[:1], want[:1]) {
		t.Error("two lists of one answer share memory:", first)
	}
	scribbleElems(first)
	if !alikeElems(second, want) {
		t.Error("two answers share memory:", second)
	}
	defs := town()
	text := model.Text(l)
	model.Check(defs, l)
	model.Equal(l, otherwise(l))
	model.Same(defs[1], l, l[2])
	model.Key(defs[1], l[2])
	if !alike(l, tree()) || !rooms(l) || model.Text(l) != text || !alikeDefs(defs, town()) {
		t.Error("what was handed in was changed:", l)
	}
	scribble(l)
	if !alikeElems(second, want) {
		t.Error("elements keep what was handed in:", second)
	}
}

// otherwise answers the same nodes but for the last value.
func otherwise(l []api.Node) []api.Node {
	l = nodesAnew(l)
	l[3].Kids[1].Kids[1].Value = "other"
	return l
}

// Rule 4: of elements as nodes.
func TestReadSharesNothing(t *testing.T) {
	defs := town()
	const s = "<config><box><item><y>2</y><x>1</x></item><color>red</color></box><port><at><side>left</side></at><name>b</name><speed>1</speed></port><empty/><port><at><side>left</side></at><name>a</name><speed>1</speed></port><name>n</name></config>"
	e, _ := xml.Parse(s)
	elems := append(anew(e.Kids), saying("room", "1"))[:len(e.Kids)]
	first, err := model.Read(defs, elems)
	second, _ := model.Read(defs, elems)
	if err != api.OK || !alike(first, tree()) || !alike(second, tree()) {
		t.Fatal(first, err)
	}
	if !alikeElems(elems, e.Kids) || elems[:len(elems)+1][len(elems)].Name != "room" || !alikeDefs(defs, town()) {
		t.Error("what was handed in was changed:", elems)
	}
	kids := first[1].Kids
	first[1].Kids = append(kids, value("more", ""))
	scribble(kids)
	if !alike(first[2:], tree()[2:]) || !alike(first[:1], tree()[:1]) {
		t.Error("two lists of one answer share memory:", first)
	}
	scribble(first)
	if !alike(second, tree()) {
		t.Error("two answers share memory:", second)
	}
	scribbleElems(elems)
	for i := range defs {
		defs[i].Name = "!"
		defs[i].Keys = append(defs[i].Keys[:0], "!")
	}
	if !alike(second, tree()) {
		t.Error("nodes keep what was handed in:", second)
	}
	parses(t, town(), s, tree()...)
}

// Rule 4: a key's values are new memory.
func TestKeySharesNothing(t *testing.T) {
	d := list("l", "a b", text("a"), text("b"))
	n := node("l", value("a", "1"), value("b", "2"))
	keys, _ := model.Key(d, n)
	keys[0], keys[1] = "!", "!"
	_ = append(keys, "!")
	if again, _ := model.Key(d, n); !slices.Equal(again, []string{"1", "2"}) || !slices.Equal(d.Keys, []string{"a", "b"}) || n.Kids[0].Value != "1" {
		t.Error(again, d, n)
	}
}
