package sieve_test

import (
	"slices"
	"strconv"
	"strings"
	"testing"

	"tabulary/api"
	"tabulary/model"
	"tabulary/sieve"
	"tabulary/xml"
)

// What the package should answer, reckoned apart from it, as the chapter's words
// have it: each element chooses a set of places, for itself, and what several
// choose is all places that are in one of their sets.

// A place of a node: the numbers of the nodes around it, and its own, each with a
// "/" behind it.
type places map[string]bool

// add puts all of other into the set.
func (p places) add(other places) {
	for at := range other {
		p[at] = true
	}
}

// under answers the places of a node and of all in it.
func under(n api.Node, at string) places {
	p := places{at: true}
	for i, kid := range n.Kids {
		p.add(under(kid, at+strconv.Itoa(i)+"/"))
	}
	return p
}

// defined answers the definition of a name.
func defined(l []api.Def, name string) (api.Def, bool) {
	for _, d := range l {
		if d.Name == name {
			return d, true
		}
	}
	return api.Def{}, false
}

// chosenOf answers what elements choose of the nodes behind a place.
func chosenOf(l []api.Def, nodes []api.Node, at string, elems []api.Elem) places {
	p := places{}
	for i, n := range nodes {
		d, _ := defined(l, n.Name)
		for _, e := range elems {
			if e.Name == n.Name {
				p.add(chosenBy(d, n, at+strconv.Itoa(i)+"/", e))
			}
		}
	}
	return p
}

// chosenBy answers what an element of its name chooses of the node at a place.
func chosenBy(d api.Def, n api.Node, at string, e api.Elem) places {
	if d.Kind == 3 {
		if len(e.Kids) > 0 || e.Text != "" && e.Text != n.Value {
			return nil
		}
		return places{at: true}
	}
	if e.Text != "" {
		return nil
	}
	if len(e.Kids) == 0 {
		return under(n, at)
	}
	p, others := places{}, []api.Elem{}
	for _, kid := range e.Kids {
		if leaf, ok := defined(d.Kids, kid.Name); !ok || leaf.Kind != 3 || kid.Text == "" {
			others = append(others, kid)
			continue
		}
		i := slices.IndexFunc(n.Kids, func(own api.Node) bool { return own.Name == kid.Name })
		if i < 0 || n.Kids[i].Value != kid.Text {
			return nil
		}
		p[at+strconv.Itoa(i)+"/"] = true
	}
	if len(others) == 0 && len(p) > 0 {
		return under(n, at)
	}
	p.add(chosenOf(d.Kids, n.Kids, at, others))
	if len(p) == 0 {
		return nil
	}
	p[at] = true
	for i, kid := range n.Kids {
		if d.Kind == 2 && slices.Contains(d.Keys, kid.Name) {
			p[at+strconv.Itoa(i)+"/"] = true
		}
	}
	return p
}

// standing answers the nodes whose places are in the set.
func (p places) standing(nodes []api.Node, at string) []api.Node {
	var l []api.Node
	for i, n := range nodes {
		if own := at + strconv.Itoa(i) + "/"; p[own] {
			l = append(l, api.Node{Name: n.Name, Value: n.Value, Kids: p.standing(n.Kids, own)})
		}
	}
	return l
}

// filterApart answers what Filter should.
func filterApart(l []api.Def, nodes []api.Node, filter []api.Elem) []api.Node {
	return chosenOf(l, nodes, "", filter).standing(nodes, "")
}

// alike tells whether nodes are the same, one by one.
func alike(a, b []api.Node) bool {
	return slices.EqualFunc(a, b, func(m, n api.Node) bool {
		return m.Name == n.Name && m.Value == n.Value && alike(m.Kids, n.Kids)
	})
}

// stands tells whether part is what is left of nodes, when some are taken out, at
// any depth.
func stands(part, nodes []api.Node) bool {
	for _, n := range nodes {
		if len(part) > 0 && part[0].Name == n.Name && part[0].Value == n.Value && stands(part[0].Kids, n.Kids) {
			part = part[1:]
		}
	}
	return len(part) == 0
}

// count answers how many nodes there are, at all depths.
func count(nodes []api.Node) int {
	n := len(nodes)
	for _, kid := range nodes {
		n += count(kid.Kids)
	}
	return n
}

// text answers a leaf of texts.
func text(name string) api.Def {
	return api.Def{Name: name, Kind: api.Leaf}
}

// number answers a leaf of numbers.
func number(name string) api.Def {
	return api.Def{Name: name, Kind: api.Leaf, Type: api.TypeNumber}
}

// box answers a container.
func box(name string, kids ...api.Def) api.Def {
	return api.Def{Name: name, Kind: api.Container, Kids: kids}
}

// list answers a list, whose keys stand apart by blanks.
func list(name, keys string, kids ...api.Def) api.Def {
	return api.Def{Name: name, Kind: api.List, Keys: strings.Fields(keys), Kids: kids}
}

// value answers a leaf of a tree.
func value(name, s string) api.Node {
	return api.Node{Name: name, Value: s}
}

// node answers another node of a tree.
func node(name string, kids ...api.Node) api.Node {
	return api.Node{Name: name, Kids: kids}
}

// town is a schema of all kinds, in which keys stand in another order than in
// their list, and behind what is no key, and names come again further in.
func town() []api.Def {
	return []api.Def{
		text("name"),
		list("port", "name", number("speed"), text("name"), text("on"), box("at", text("side"), box("deep", text("on")))),
		box("box", text("color"), list("item", "y x", text("note"), number("x"), text("y"), list("sub", "k", text("v"), text("k"))), box("box", text("name"))),
		text("none"),
	}
}

// full is a tree of town.
const full = "<name>n</name>" +
	"<port><speed>1</speed><name>a</name><on>y</on><at><side>left</side><deep><on>n</on></deep></at></port>" +
	"<port><speed>1</speed><name>b</name></port>" +
	"<port><name>c</name><on>y</on><at><side>right</side></at></port>" +
	"<box><color>red</color>" +
	"<item><note>m</note><x>1</x><y>p</y><sub><v>1</v><k>k</k></sub><sub><v>2</v><k>l</k></sub></item>" +
	"<item><x>1</x><y>q</y><sub><v>1</v><k>k</k></sub></item>" +
	"<item><note>m</note><x>2</x><y>q</y></item>" +
	"<box><name>in</name></box></box>" +
	"<none/>"

// elems answers the elements that a text holds.
func elems(t *testing.T, s string) []api.Elem {
	t.Helper()
	e, err := xml.Parse("<c>" + s + "</c>")
	if err != api.OK {
		t.Fatalf("%s is no document's content: %d", s, err)
	}
	return e.Kids
}

// tree answers the tree that a text tells.
func tree(t *testing.T, l []api.Def, s string) []api.Node {
	t.Helper()
	nodes, err := model.Read(l, elems(t, s))
	if err != api.OK {
		t.Fatalf("%s is no tree: %d", s, err)
	}
	return nodes
}

// filters fails the test unless Filter answers what it should, which stands in
// what it was given, and leaves that; it answers that.
func filters(t *testing.T, l []api.Def, nodes []api.Node, filter []api.Elem) []api.Node {
	t.Helper()
	before := model.Copy(nodes)
	want := filterApart(l, nodes, filter)
	got := sieve.Filter(l, nodes, filter)
	if !alike(got, want) {
		t.Fatalf("Filter(%v, %v, %v): %v, want %v", l, nodes, filter, got, want)
	}
	if !alike(nodes, before) {
		t.Fatalf("Filter changed %v to %v", before, nodes)
	}
	if !stands(got, nodes) {
		t.Fatalf("Filter(%v): %v doesn't stand in %v", filter, got, nodes)
	}
	return got
}

// chooses fails the test unless a filter chooses of full what a text tells, a part
// of a tree, in which keys may be missing.
func chooses(t *testing.T, filter, want string) {
	t.Helper()
	got := filters(t, town(), tree(t, town(), full), elems(t, filter))
	if s := model.Text(got); s != in(want) {
		t.Errorf("%s chooses %s, want %s", filter, s, in(want))
	}
}

// in answers the text of a tree whose nodes a text tells.
func in(s string) string {
	if s == "" {
		return "<config/>"
	}
	return "<config>" + s + "</config>"
}
