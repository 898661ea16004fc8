package sieve_test

import (
	"strconv"
	"strings"
	"testing"

	"tabulary/api"
	"tabulary/model"
	"tabulary/sieve"
)

// Parts of full.
const (
	portA = "<port><speed>1</speed><name>a</name><on>y</on><at><side>left</side><deep><on>n</on></deep></at></port>"
	portB = "<port><speed>1</speed><name>b</name></port>"
	portC = "<port><name>c</name><on>y</on><at><side>right</side></at></port>"
	item1 = "<item><note>m</note><x>1</x><y>p</y><sub><v>1</v><k>k</k></sub><sub><v>2</v><k>l</k></sub></item>"
	item2 = "<item><x>1</x><y>q</y><sub><v>1</v><k>k</k></sub></item>"
	item3 = "<item><note>m</note><x>2</x><y>q</y></item>"
)

// P16.1: what an element chooses of a leaf.
func TestLeaf(t *testing.T) {
	chooses(t, "<name/>", "<name>n</name>")
	chooses(t, "<name>n</name>", "<name>n</name>")
	chooses(t, "<name>m</name>", "")
	chooses(t, "<name>N</name>", "")
	chooses(t, "<name> n</name>", "")
	chooses(t, "<name>nn</name>", "")
	chooses(t, "<name><n/></name>", "")
	chooses(t, "<name><name/></name>", "")
	chooses(t, "<name><name>n</name></name>", "")
	chooses(t, "<none/>", "<none/>")
	chooses(t, "<none>&#x20;</none>", "")
	chooses(t, "<none>n</none>", "")
	chooses(t, "<zip/>", "")
	chooses(t, "<zip>n</zip>", "")
	chooses(t, "<speed/>", "")
	chooses(t, "<config><name/></config>", "")
	// a text and elements: nothing, whatever the text is
	got := filters(t, town(), tree(t, town(), full), []api.Elem{{Name: "name", Text: "n", Kids: []api.Elem{{Name: "n"}}}})
	if len(got) > 0 {
		t.Error(got)
	}
}

// P16.1: what an element without elements chooses of other nodes.
func TestAllOfIt(t *testing.T) {
	chooses(t, "<port/>", portA+portB+portC)
	chooses(t, "<port>t</port>", "")
	chooses(t, "<port>a</port>", "")
	chooses(t, "<port> </port>", portA+portB+portC)
	chooses(t, "<port>&#x20;</port>", "")
	chooses(t, "<box>red</box>", "")
	chooses(t, "<box/>", "<box><color>red</color>"+item1+item2+item3+"<box><name>in</name></box></box>")
	chooses(t, "<box><box/></box>", "<box><box><name>in</name></box></box>")
	chooses(t, "<box><box>in</box></box>", "")
	chooses(t, "<port><at/></port>", "<port><name>a</name><at><side>left</side><deep><on>n</on></deep></at></port><port><name>c</name><at><side>right</side></at></port>")
	// a text and elements: nothing, whatever these would choose
	for _, name := range []string{"port", "box"} {
		e := api.Elem{Name: name, Text: "t", Kids: []api.Elem{{Name: "name"}, {Name: "color"}}}
		if got := filters(t, town(), tree(t, town(), full), []api.Elem{e}); len(got) > 0 {
			t.Error(got)
		}
	}
}

// P16.1: elements that match choose all of the node, if there are no others.
func TestMatch(t *testing.T) {
	chooses(t, "<port><name>a</name></port>", portA)
	chooses(t, "<port><name>d</name></port>", "")
	chooses(t, "<port><name>A</name></port>", "")
	chooses(t, "<port><name>a </name></port>", "")
	chooses(t, "<port><speed>1</speed></port>", portA+portB)
	chooses(t, "<port><speed>01</speed></port>", "")
	chooses(t, "<port><on>y</on></port>", portA+portC)
	chooses(t, "<port><on>y</on><speed>1</speed></port>", portA)
	chooses(t, "<port><on>n</on><speed>1</speed></port>", "")
	chooses(t, "<port><on>y</on><speed>2</speed></port>", "")
	chooses(t, "<port><name>a</name><name>a</name></port>", portA)
	chooses(t, "<port><name>a</name><name>b</name></port>", "")
	chooses(t, "<box><item><x>1</x><y>q</y></item></box>", "<box>"+item2+"</box>")
	chooses(t, "<box><item><y>q</y></item></box>", "<box>"+item2+item3+"</box>")
	chooses(t, "<box><color>red</color></box>", "<box><color>red</color>"+item1+item2+item3+"<box><name>in</name></box></box>")
	chooses(t, "<box><color>green</color></box>", "")
	chooses(t, "<port><at><side>right</side></at></port>", "<port><name>c</name><at><side>right</side></at></port>")
	chooses(t, "<port><at><side>left</side></at></port>", "<port><name>a</name><at><side>left</side><deep><on>n</on></deep></at></port>")
	// a leaf of its own, not one further in or further out, and no other node
	chooses(t, "<box><name>in</name></box>", "")
	chooses(t, "<port><side>left</side></port>", "")
	chooses(t, "<port><at><on>y</on></at></port>", "")
	chooses(t, "<port><at>left</at></port>", "")
	// a text is what counts, whatever elements stand beside it
	e := api.Elem{Name: "port", Kids: []api.Elem{{Name: "name", Text: "a", Kids: []api.Elem{{Name: "zip"}}}}}
	got := filters(t, town(), tree(t, town(), full), []api.Elem{e})
	if s := model.Text(got); s != in(portA) {
		t.Error(s)
	}
	e.Kids = append(e.Kids, api.Elem{Name: "zip"})
	got = filters(t, town(), tree(t, town(), full), []api.Elem{e})
	if s := model.Text(got); s != in("<port><name>a</name></port>") {
		t.Error(s)
	}
}

// P16.1: beside others elements that match choose their leaves.
func TestMatchAndOthers(t *testing.T) {
	chooses(t, "<port><name>a</name><speed/></port>", "<port><speed>1</speed><name>a</name></port>")
	chooses(t, "<port><speed/><name>a</name></port>", "<port><speed>1</speed><name>a</name></port>")
	chooses(t, "<port><name>b</name><on/></port>", "<port><name>b</name></port>")
	chooses(t, "<port><name>d</name><on/></port>", "")
	chooses(t, "<port><name>a</name><name/></port>", "<port><name>a</name></port>")
	chooses(t, "<port><on>y</on><at><side/></at></port>", "<port><name>a</name><on>y</on><at><side>left</side></at></port><port><name>c</name><on>y</on><at><side>right</side></at></port>")
	chooses(t, "<port><on>y</on><at><side>left</side></at></port>", "<port><name>a</name><on>y</on><at><side>left</side><deep><on>n</on></deep></at></port><port><name>c</name><on>y</on></port>")
	chooses(t, "<port><on>y</on><zip/></port>", "<port><name>a</name><on>y</on></port><port><name>c</name><on>y</on></port>")
	chooses(t, "<port><on>y</on><zip>1</zip></port>", "<port><name>a</name><on>y</on></port><port><name>c</name><on>y</on></port>")
	chooses(t, "<port><on>y</on><at>left</at></port>", "<port><name>a</name><on>y</on></port><port><name>c</name><on>y</on></port>")
	chooses(t, "<box><color>red</color><item><zip/></item></box>", "<box><color>red</color></box>")
	chooses(t, "<box><color>red</color><box><name/></box></box>", "<box><color>red</color><box><name>in</name></box></box>")
	chooses(t, "<box><color>blue</color><box><name/></box></box>", "")
	chooses(t, "<box><item><x>1</x><sub><v>1</v></sub></item></box>", "<box><item><x>1</x><y>p</y><sub><v>1</v><k>k</k></sub></item><item><x>1</x><y>q</y><sub><v>1</v><k>k</k></sub></item></box>")
	chooses(t, "<box><item><note>m</note><sub><v>2</v></sub></item></box>", "<box><item><note>m</note><x>1</x><y>p</y><sub><v>2</v><k>l</k></sub></item><item><note>m</note><x>2</x><y>q</y></item></box>")
}

// P16.1: others choose of the node's nodes; the leaves of an entry's keys go with
// what they choose, and with nothing they don't go.
func TestOthers(t *testing.T) {
	chooses(t, "<port><name/></port>", "<port><name>a</name></port><port><name>b</name></port><port><name>c</name></port>")
	chooses(t, "<port><on/></port>", "<port><name>a</name><on>y</on></port><port><name>c</name><on>y</on></port>")
	chooses(t, "<port><on/><speed/></port>", "<port><speed>1</speed><name>a</name><on>y</on></port><port><speed>1</speed><name>b</name></port><port><name>c</name><on>y</on></port>")
	chooses(t, "<port><zip/></port>", "")
	chooses(t, "<port><zip>1</zip></port>", "")
	chooses(t, "<port><at><deep/></at></port>", "<port><name>a</name><at><deep><on>n</on></deep></at></port>")
	chooses(t, "<port><at><deep><on/></deep></at></port>", "<port><name>a</name><at><deep><on>n</on></deep></at></port>")
	chooses(t, "<port><at><deep><on>n</on></deep></at></port>", "<port><name>a</name><at><deep><on>n</on></deep></at></port>")
	chooses(t, "<port><at><deep><on>y</on></deep></at></port>", "")
	chooses(t, "<port><at><deep><zip/></deep></at></port>", "")
	chooses(t, "<box><color/></box>", "<box><color>red</color></box>")
	chooses(t, "<box><zip/></box>", "")
	chooses(t, "<box><item/></box>", "<box>"+item1+item2+item3+"</box>")
	chooses(t, "<box><item><note/></item></box>", "<box><item><note>m</note><x>1</x><y>p</y></item><item><note>m</note><x>2</x><y>q</y></item></box>")
	chooses(t, "<box><item><x/></item></box>", "<box><item><x>1</x><y>p</y></item><item><x>1</x><y>q</y></item><item><x>2</x><y>q</y></item></box>")
	chooses(t, "<box><item><sub><v/></sub></item></box>", "<box><item><x>1</x><y>p</y><sub><v>1</v><k>k</k></sub><sub><v>2</v><k>l</k></sub></item><item><x>1</x><y>q</y><sub><v>1</v><k>k</k></sub></item></box>")
	chooses(t, "<box><item><sub><k>l</k></sub></item></box>", "<box><item><x>1</x><y>p</y><sub><v>2</v><k>l</k></sub></item></box>")
	chooses(t, "<box><item><sub><k>z</k></sub></item></box>", "")
	chooses(t, "<box><item><note><zip/></note></item></box>", "")
}

// P16.1: several elements choose all that each of them does, once, in the order of
// the tree.
func TestSeveral(t *testing.T) {
	chooses(t, "<name/><name/><name>n</name><name>m</name>", "<name>n</name>")
	chooses(t, "<none/><name/>", "<name>n</name><none/>")
	chooses(t, "<port><on/></port><port><speed/></port>", "<port><speed>1</speed><name>a</name><on>y</on></port><port><speed>1</speed><name>b</name></port><port><name>c</name><on>y</on></port>")
	chooses(t, "<port><name>c</name></port><port><name>a</name></port>", portA+portC)
	chooses(t, "<port><name>c</name></port><port><name>a</name></port><port><name>c</name><on/></port>", portA+portC)
	chooses(t, "<port><name>a</name><on/></port><port><name>c</name></port><port/>", portA+portB+portC)
	chooses(t, "<port><name>a</name><on/></port><port><name>b</name><on/></port>", "<port><name>a</name><on>y</on></port><port><name>b</name></port>")
	chooses(t, "<port><name>a</name><on/></port><port><name>a</name><speed/></port>", "<port><speed>1</speed><name>a</name><on>y</on></port>")
	chooses(t, "<port><name>a</name><name>b</name></port><port><on/></port><port>a</port>", "<port><name>a</name><on>y</on></port><port><name>c</name><on>y</on></port>")
	chooses(t, "<box><color/></box><box><item><x>2</x><x/></item></box>", "<box><color>red</color><item><x>2</x><y>q</y></item></box>")
	chooses(t, "<box><item><sub><k>k</k></sub></item></box><box><item><y>p</y><sub><k>l</k><k/></sub></item></box>",
		"<box><item><x>1</x><y>p</y><sub><v>1</v><k>k</k></sub><sub><k>l</k></sub></item><item><x>1</x><y>q</y><sub><v>1</v><k>k</k></sub></item></box>")
	chooses(t, "<box><item><sub><v/></sub><sub><k>l</k></sub><note/></item></box>",
		"<box><item><note>m</note><x>1</x><y>p</y><sub><v>1</v><k>k</k></sub><sub><v>2</v><k>l</k></sub></item><item><x>1</x><y>q</y><sub><v>1</v><k>k</k></sub></item><item><note>m</note><x>2</x><y>q</y></item></box>")
	// that one chooses nothing doesn't count against what another one chooses
	chooses(t, "<box><color>blue</color></box><box><box/></box>", "<box><box><name>in</name></box></box>")
	chooses(t, "<box><box/></box><box><color>blue</color><item/></box>", "<box><box><name>in</name></box></box>")
	chooses(t, "<box>t</box><box><zip/></box><box><color/></box>", "<box><color>red</color></box>")
	// a match of one element doesn't match for another one
	chooses(t, "<port><name>a</name><zip/></port><port><name>b</name><at><deep/></at></port>", "<port><name>a</name></port><port><name>b</name></port>")
}

// P16.1: the elements' names alone count, not their namespaces and attributes.
func TestSpaces(t *testing.T) {
	chooses(t, "<p:port xmlns:p='u' operation='delete'><name xmlns='v' p:x='1'>b</name></p:port>", portB)
	chooses(t, "<port x='1'/>", portA+portB+portC)
	chooses(t, "<name x='m'>n</name>", "<name>n</name>")
}

// P16.1: of a tree of which not all may be read: entries without keys, that may be
// alike, are each one of its own, and containers without nodes are nodes, too.
func TestPruned(t *testing.T) {
	l := town()
	nodes := []api.Node{
		node("port", value("speed", "1")),
		node("port", value("speed", "1"), value("on", "y")),
		node("port", value("speed", "1")),
		node("port"),
		node("port", value("on", "y"), node("at")),
		node("box", node("item", value("x", "1")), node("item", value("x", "1"), node("sub", value("v", "1")), node("sub", value("v", "1"))), node("box")),
	}
	for f, want := range map[string]string{
		"<port/>":               "<port><speed>1</speed></port><port><speed>1</speed><on>y</on></port><port><speed>1</speed></port><port/><port><on>y</on><at/></port>",
		"<port><speed/></port>": "<port><speed>1</speed></port><port><speed>1</speed></port><port><speed>1</speed></port>",
		"<port><speed/></port><port><on/></port>":        "<port><speed>1</speed></port><port><speed>1</speed><on>y</on></port><port><speed>1</speed></port><port><on>y</on></port>",
		"<port><speed/></port><port><speed/></port>":     "<port><speed>1</speed></port><port><speed>1</speed></port><port><speed>1</speed></port>",
		"<port><speed>1</speed></port>":                  "<port><speed>1</speed></port><port><speed>1</speed><on>y</on></port><port><speed>1</speed></port>",
		"<port><name/></port>":                           "",
		"<port><name>a</name></port>":                    "",
		"<port><name>a</name><speed/></port>":            "",
		"<port><name/><on/></port>":                      "<port><on>y</on></port><port><on>y</on></port>",
		"<port><at/></port>":                             "<port><at/></port>",
		"<port><at><side/></at></port>":                  "",
		"<port><at><deep><on>y</on></deep></at></port>":  "",
		"<port><on>y</on><at><side/></at></port>":        "<port><on>y</on></port><port><on>y</on></port>",
		"<port><at><side>left</side></at></port>":        "",
		"<box><item><x>1</x></item></box>":               "<box><item><x>1</x></item><item><x>1</x><sub><v>1</v></sub><sub><v>1</v></sub></item></box>",
		"<box><item><x/></item></box>":                   "<box><item><x>1</x></item><item><x>1</x></item></box>",
		"<box><item><sub/></item></box>":                 "<box><item><x>1</x><sub><v>1</v></sub><sub><v>1</v></sub></item></box>",
		"<box><item><sub><v>1</v></sub></item></box>":    "<box><item><x>1</x><sub><v>1</v></sub><sub><v>1</v></sub></item></box>",
		"<box><item><sub><k/></sub></item></box>":        "",
		"<box><box/></box>":                              "<box><box/></box>",
		"<box><box><name/></box></box>":                  "",
		"<box><box><name/></box></box><box><box/></box>": "<box><box/></box>",
		"<name/>": "",
	} {
		if s := model.Text(filters(t, l, nodes, elems(t, f))); s != in(want) {
			t.Errorf("%s chooses %s, want %s", f, s, in(want))
		}
	}
}

// P16.1: all in the order in which they stand, even where that isn't the order of
// a tree.
func TestOrder(t *testing.T) {
	nodes := []api.Node{
		value("none", ""),
		node("port", value("name", "b"), value("speed", "2")),
		value("name", "n"),
		node("port", value("speed", "1"), value("name", "a")),
	}
	for f, want := range map[string]string{
		"<name/><port/><none/>":                "<none/><port><name>b</name><speed>2</speed></port><name>n</name><port><speed>1</speed><name>a</name></port>",
		"<port><name>a</name></port><none/>":   "<none/><port><speed>1</speed><name>a</name></port>",
		"<port><name/><speed/></port><name/>":  "<port><name>b</name><speed>2</speed></port><name>n</name><port><speed>1</speed><name>a</name></port>",
		"<port><speed>1</speed><name/></port>": "<port><speed>1</speed><name>a</name></port>",
	} {
		if s := model.Text(filters(t, town(), nodes, elems(t, f))); s != in(want) {
			t.Errorf("%s chooses %s, want %s", f, s, in(want))
		}
	}
}

// P16.2: a filter of nothing, and of nothing that is there, chooses nothing; of
// nothing nothing is chosen.
func TestNothing(t *testing.T) {
	nodes := tree(t, town(), full)
	chooses(t, "", "")
	for _, filter := range [][]api.Elem{nil, {}, {{}}, {{Name: "zip"}}, {{Text: "n"}}, {{Kids: []api.Elem{{Name: "name"}}}}} {
		if got := filters(t, town(), nodes, filter); len(got) > 0 {
			t.Error(filter, got)
		}
		if got := filters(t, town(), nil, filter); len(got) > 0 {
			t.Error(filter, got)
		}
	}
	if got := sieve.Filter(town(), nil, elems(t, full)); len(got) > 0 {
		t.Error(got)
	}
}

// P16.2: elements that stand for the whole tree choose it.
func TestWhole(t *testing.T) {
	chooses(t, full, full)
	chooses(t, "<name/><port/><box/><none/>", full)
	chooses(t, "<none/><box/><port/><name/>", full)
	nodes := tree(t, town(), full)
	if got := filters(t, town(), nodes, model.Elems(nodes, "u")); !model.Equal(got, nodes) {
		t.Error(got)
	}
}

// nested answers a schema of so many levels: boxes, each with a leaf, and
// answers a tree of it.
func nested(levels int) ([]api.Def, []api.Node) {
	l, nodes := []api.Def{text("a")}, []api.Node{value("a", strconv.Itoa(levels))}
	for i := levels - 1; i > 0; i-- {
		l = []api.Def{text("a"), box("b", l...)}
		nodes = []api.Node{value("a", strconv.Itoa(i)), node("b", nodes...)}
	}
	return l, nodes
}

// P16.1: as deep as a tree may be.
func TestDeepest(t *testing.T) {
	l, nodes := nested(10)
	if !model.Right(l) {
		t.Fatal("the test's own schema")
	}
	inside := func(n int, s string) string {
		return strings.Repeat("<b>", n) + s + strings.Repeat("</b>", n)
	}
	for i := range 10 {
		leaf := inside(i, "<a>"+strconv.Itoa(i+1)+"</a>")
		filter := func(s, want string) {
			t.Helper()
			if s := model.Text(filters(t, l, nodes, elems(t, s))); s != in(want) {
				t.Errorf("%d: %s, want %s", i, s, want)
			}
		}
		filter(inside(i, "<a/>"), leaf)
		if i > 0 {
			filter(inside(i, "<a>"+strconv.Itoa(i)+"</a>"), "")
			filter(inside(i, "<zip/>"), "")
		}
	}
	for _, f := range []string{"<b/><a/>", "<a>1</a><b/>", "<a/><b><a>2</a></b>", "<a/>" + inside(9, "<a>10</a>") + "<b/>"} {
		if got := filters(t, l, nodes, elems(t, f)); !alike(got, nodes) {
			t.Error(f, got)
		}
	}
}

// P16.1: as many nodes as there may be, each chosen or not.
func TestMost(t *testing.T) {
	l := []api.Def{list("e", "k", number("k"), text("v"))}
	var nodes, even []api.Node
	var filter []api.Elem
	for i := range api.MaxKids {
		n := node("e", value("k", strconv.Itoa(1000+i)), value("v", strconv.Itoa(i%2)))
		nodes = append(nodes, n)
		if i%2 == 0 {
			even = append(even, n)
			filter = append(filter, api.Elem{Name: "e", Kids: []api.Elem{{Name: "k", Text: strconv.Itoa(1000 + i)}}})
		}
	}
	if got := filters(t, l, nodes, filter); !alike(got, even) {
		t.Error(got)
	}
	if got := filters(t, l, nodes, elems(t, "<e><v>0</v></e>")); !alike(got, even) {
		t.Error(got)
	}
	if got := filters(t, l, nodes, model.Elems(nodes, "")); !alike(got, nodes) {
		t.Error(got)
	}
}
