package change_test

import (
	"math/rand"
	"slices"
	"strconv"
	"testing"

	"tabulary/api"
	"tabulary/change"
	"tabulary/model"
)

// A maker makes schemas, trees of them, and edits.
type maker struct {
	*rand.Rand
	slips int // one in so many elements is wrong; 0: none
	plain int // one in so many elements names an operation; 0: none
	left  int // how many more elements there may be
}

// one answers one of these.
func (m *maker) one(l ...string) string {
	return l[m.Intn(len(l))]
}

// leaf answers a leaf of any type.
func (m *maker) leaf(name string) api.Def {
	d := api.Def{Name: name, Kind: api.Leaf, Type: m.Intn(4), Must: m.Intn(8) == 0}
	if d.Type == api.TypeEnum {
		d.Values = []string{"red", "green", "blue"}[:1+m.Intn(3)]
	}
	return d
}

// schema answers a schema of so many levels at most.
func (m *maker) schema(levels, most int) []api.Def {
	var l []api.Def
	for i := range 1 + m.Intn(most) {
		name := m.one("a", "b", "_", "Z") + strconv.Itoa(i)
		d := m.leaf(name)
		if levels > 1 && m.Intn(2) == 0 {
			d = api.Def{Name: name, Kind: 1 + m.Intn(2), Kids: m.schema(levels-1, most)}
		}
		if d.Kind == api.List {
			d.Keys = m.keys(&d)
		}
		l = append(l, d)
	}
	return l
}

// keys answers the names of some leaves of a list, which has one then.
func (m *maker) keys(d *api.Def) []string {
	var l []string
	for _, i := range m.Perm(len(d.Kids)) {
		if d.Kids[i].Kind == api.Leaf && len(l) < 1+m.Intn(3) {
			l = append(l, d.Kids[i].Name)
		}
	}
	if len(l) == 0 {
		d.Kids[0] = m.leaf(d.Kids[0].Name)
		l = []string{d.Kids[0].Name}
	}
	return l
}

// value answers a value of a leaf, of few, so that some are there already.
func (m *maker) value(d api.Def) string {
	switch d.Type {
	case api.TypeNumber:
		return m.one("0", "2", "-1", "10")
	case api.TypeBool:
		return m.one("true", "false")
	case api.TypeEnum:
		return m.one(d.Values...)
	}
	return m.one("", "a", "ab", "b", " ")
}

// slip tells whether something is to be wrong here.
func (m *maker) slip() bool {
	return m.slips > 0 && m.Intn(m.slips) == 0
}

// edit answers some elements of a schema, in any order.
func (m *maker) edit(l []api.Def, most int) []api.Elem {
	var some []api.Elem
	for range m.Intn(most + 1) {
		if m.left > 0 && len(l) > 0 {
			m.left--
			some = append(some, m.elem(l[m.Intn(len(l))], most))
		}
	}
	if m.slip() {
		some = append(some, api.Elem{Name: m.one("a", "x", "")})
	}
	return some
}

// elem answers an element of a definition.
func (m *maker) elem(d api.Def, most int) api.Elem {
	e := api.Elem{Name: d.Name, Space: m.one("", "", "u")}
	for m.plain > 0 && m.Intn(m.plain) == 0 {
		e.Attrs = append(e.Attrs, api.Attr{Name: "operation", Value: m.one(names[1:]...)})
	}
	if m.slip() {
		e.Attrs = append(e.Attrs, api.Attr{Name: m.one("operation", "x"), Value: m.one("none", "", "merge")})
	}
	if d.Kind == api.Leaf {
		if e.Text = m.value(d); len(e.Attrs) > 0 && m.Intn(2) == 0 {
			e.Text = ""
		}
		if m.slip() {
			e.Text = m.one("", "01", "x\n", "TRUE")
		}
		if m.slip() {
			e.Kids = []api.Elem{{Name: d.Name}}
		}
		return e
	}
	for _, kid := range m.edit(d.Kids, most) {
		if !slices.Contains(d.Keys, kid.Name) || m.slip() {
			e.Kids = append(e.Kids, kid)
		}
	}
	for _, key := range d.Keys {
		if !m.slip() {
			leaf := d.Kids[where(d.Kids, key)]
			e.Kids = append(e.Kids, api.Elem{Name: key, Text: m.value(leaf)})
		}
	}
	if m.slip() {
		e.Text = "x"
	}
	m.Shuffle(len(e.Kids), func(i, j int) { e.Kids[i], e.Kids[j] = e.Kids[j], e.Kids[i] })
	return e
}

// over answers elements of some nodes of a tree, some of them with operations,
// and without some of their elements, which are there, so that they hit.
func (m *maker) over(l []api.Def, nodes []api.Node) []api.Elem {
	var some []api.Elem
	for i, e := range model.Elems(nodes, "") {
		if m.Intn(4) == 0 {
			continue
		}
		d := l[where(l, e.Name)]
		if m.plain > 0 && m.Intn(m.plain) == 0 {
			e.Attrs = []api.Attr{{Name: "operation", Value: m.one(names[1:]...)}}
		}
		if d.Kind == api.Leaf && m.Intn(2) == 0 {
			e.Text = m.value(d)
		}
		if d.Kind != api.Leaf {
			keys := map[string]string{}
			for _, key := range d.Keys {
				keys[key] = nodes[i].Kids[place(nodes[i].Kids, key)].Value
			}
			e.Kids = slices.DeleteFunc(m.over(d.Kids, nodes[i].Kids), func(kid api.Elem) bool { return slices.Contains(d.Keys, kid.Name) })
			for _, key := range d.Keys {
				e.Kids = append(e.Kids, api.Elem{Name: key, Text: keys[key]})
			}
		}
		some = append(some, e)
	}
	m.Shuffle(len(some), func(i, j int) { some[i], some[j] = some[j], some[i] })
	return some
}

// place answers the place of the node of a name; -1.
func place(nodes []api.Node, name string) int {
	return slices.IndexFunc(nodes, func(n api.Node) bool { return n.Name == name })
}

// P15.1: elements of all kinds, right and wrong, and all that is handed in.
func TestAnyElems(t *testing.T) {
	came := map[api.Errno]int{}
	for seed := range int64(20000) {
		m := &maker{rand.New(rand.NewSource(seed)), 20 + int(seed)%80, 1 + int(seed)%9, 40}
		if m.plain == 1 {
			m.plain = 0
		}
		l := m.schema(1+m.Intn(5), 1+m.Intn(6))
		_, e := reads(t, l, m.edit(l, 1+m.Intn(6)), m.Intn(6))
		came[e]++
	}
	for _, e := range []api.Errno{api.OK, api.ErrName, api.ErrArg, api.ErrValue, api.ErrKey} {
		if came[e] < 300 {
			t.Error("the test's own elements:", came)
		}
	}
}

// P15.1, P15.2: edits of all kinds, one behind the other, of trees that came of
// the edits ahead of them.
func TestAnyEdits(t *testing.T) {
	came := map[api.Errno]int{}
	for seed := range int64(6000) {
		m := &maker{rand.New(rand.NewSource(seed)), 0, 2 + int(seed)%9, 0}
		l := m.schema(1+m.Intn(5), 1+m.Intn(5))
		var nodes []api.Node
		for step := range 12 {
			m.left = 1 + m.Intn(30)
			edit := m.edit(l, 1+m.Intn(4))
			if step%3 == 2 {
				edit = m.over(l, nodes)
			}
			op := m.Intn(6)
			if step < 3 {
				op = api.OpMerge
			}
			c, e := reads(t, l, edit, op)
			if e != api.OK {
				continue // a key that an attribute takes away
			}
			got, e := applies(t, l, nodes, c)
			if came[e]++; e == api.OK {
				nodes = got
			} else {
				// all that can be made of it, one by one
				for _, one := range c {
					if got, e := applies(t, l, nodes, []api.Change{one}); e == api.OK {
						nodes = got
					}
				}
			}
		}
	}
	for _, e := range []api.Errno{api.OK, api.ErrExists, api.ErrGone} {
		if came[e] < 3000 {
			t.Error("the test's own edits:", came)
		}
	}
}

// P15.1: changes made together come to what they come to one by one.
func TestOneByOne(t *testing.T) {
	together := 0
	for seed := range int64(4000) {
		m := &maker{rand.New(rand.NewSource(seed)), 0, 5, 40}
		l := m.schema(1+m.Intn(4), 1+m.Intn(5))
		nodes := m.tree(t, l)
		c, e := change.Read(l, append(m.edit(l, 4), m.over(l, nodes)...), m.Intn(2))
		if e != api.OK {
			continue
		}
		want, f := change.Apply(l, nodes, c)
		for _, one := range c {
			if nodes, e = change.Apply(l, nodes, []api.Change{one}); e != api.OK {
				break
			}
		}
		if e != f || e == api.OK && !alike(nodes, want) {
			t.Fatalf("%v: %v, %d, want %v, %d", c, nodes, e, want, f)
		}
		if e == api.OK && len(c) > 2 {
			together++
		}
	}
	if together < 300 {
		t.Error("the test's own edits:", together)
	}
}

// tree answers a tree of a schema, made by merging.
func (m *maker) tree(t *testing.T, l []api.Def) []api.Node {
	t.Helper()
	other := maker{m.Rand, 0, 0, 60}
	c, e := change.Read(l, other.edit(l, 6), api.OpMerge)
	if e != api.OK {
		t.Fatal(l, e)
	}
	nodes, e := change.Apply(l, nil, c)
	if e != api.OK {
		t.Fatal(l, c, e)
	}
	return nodes
}

// P15.2: replacing by a tree's elements makes that tree: of what isn't there yet,
// of itself, and, within a container or an entry, of another tree.
func TestReplace(t *testing.T) {
	same, emptied := 0, 0
	for seed := range int64(4000) {
		m := &maker{rand.New(rand.NewSource(seed)), 0, 0, 0}
		l := m.schema(1+m.Intn(8), 1+m.Intn(4))
		before, want := m.tree(t, l), m.tree(t, l)
		replaced(t, l, nil, model.Elems(want, "u"), api.OpReplace, want)
		replaced(t, l, want, model.Elems(want, ""), api.OpReplace, want)
		in := func(nodes []api.Node) []api.Node {
			if len(nodes) == 0 {
				return nil
			}
			return []api.Node{{Name: "top", Kids: nodes}}
		}
		whole := []api.Elem{{Name: "top", Kids: model.Elems(want, "")}}
		replaced(t, []api.Def{box("top", l...)}, in(before), whole, api.OpReplace, in(want))
		whole[0].Attrs = []api.Attr{{Name: "operation", Value: "replace"}}
		replaced(t, []api.Def{box("top", l...)}, in(before), whole, api.OpNone, in(want))
		key := api.Node{Name: "key", Value: "k"}
		entry := func(nodes []api.Node) []api.Node {
			return []api.Node{{Name: "top", Kids: append([]api.Node{key}, nodes...)}}
		}
		of := []api.Def{list("top", "key", append([]api.Def{text("key")}, l...)...)}
		replaced(t, of, entry(before), model.Elems(entry(want), ""), api.OpReplace, entry(want))
		replaced(t, of, nil, model.Elems(entry(want), ""), api.OpReplace, entry(want))
		if model.Equal(before, want) {
			same++
		}
		if len(want) == 0 && len(before) > 0 {
			emptied++
		}
	}
	if same > 3000 || emptied < 50 {
		t.Error("the test's own trees:", same, emptied)
	}
}

// replaced fails the test unless replacing nodes makes a tree.
func replaced(t *testing.T, l []api.Def, nodes []api.Node, elems []api.Elem, op int, want []api.Node) {
	t.Helper()
	c, e := reads(t, l, elems, op)
	if e != api.OK {
		t.Fatalf("Read(%v): %d", elems, e)
	}
	got, e := change.Apply(l, nodes, c)
	if e != api.OK || !alike(got, want) || !model.Equal(got, want) {
		t.Fatalf("%v behind %v: %v, %d, want %v", nodes, c, got, e, want)
	}
	isTree(t, l, got)
}

// P15.2: a change of OpRemove made twice makes the same as once.
func TestRemoveTwice(t *testing.T) {
	hit := 0
	for seed := range int64(4000) {
		m := &maker{rand.New(rand.NewSource(seed)), 0, 6, 40}
		l := m.schema(1+m.Intn(4), 1+m.Intn(5))
		nodes := m.tree(t, l)
		edit := append(m.edit(l, 3), m.over(l, nodes)...)
		for i := range edit {
			edit[i].Attrs = []api.Attr{{Name: "operation", Value: "remove"}}
		}
		c, e := change.Read(l, edit, api.OpMerge)
		if e != api.OK {
			continue
		}
		for _, one := range c {
			once, e := applies(t, l, nodes, []api.Change{one})
			if e != api.OK {
				t.Fatal(one, e)
			}
			twice, e := change.Apply(l, once, []api.Change{one})
			both, f := change.Apply(l, nodes, []api.Change{one, one})
			if e != api.OK || f != api.OK || !alike(twice, once) || !alike(both, once) {
				t.Fatalf("%v: %v, %v, want %v", one, twice, both, once)
			}
			if !alike(once, nodes) {
				hit++
			}
			nodes = once
		}
	}
	if hit < 1000 {
		t.Error("the test's own changes:", hit)
	}
}

// P15.1, P15.2: lists near the most that may be.
func TestAnyNearMost(t *testing.T) {
	came := map[api.Errno]int{}
	for seed := range int64(120) {
		m := &maker{rand.New(rand.NewSource(seed)), 0, 0, 0}
		l := []api.Def{number("n"), list("l", "k", text("a"), text("k")), text("z")}
		var nodes []api.Node
		for i := range 256 {
			nodes = append(nodes, api.Node{Name: "l", Kids: []api.Node{{Name: "k", Value: strconv.Itoa(100 + i*2)}}})
		}
		nodes = nodes[:250+m.Intn(7)]
		if m.Intn(2) == 0 {
			l = []api.Def{list("o", "n", l...)}
			nodes = []api.Node{{Name: "o", Kids: append([]api.Node{{Name: "n", Value: "1"}}, nodes[:min(len(nodes), 255)]...)}}
		}
		var edit []api.Elem
		for range 1 + m.Intn(10) {
			e := api.Elem{Name: "l", Kids: []api.Elem{{Name: "k", Text: strconv.Itoa(100 + m.Intn(512))}}}
			switch m.Intn(8) {
			case 0:
				e = api.Elem{Name: "z", Text: "z"}
			case 1, 2, 3:
				e.Attrs = op("", "remove").Attrs
			}
			edit = append(edit, e)
		}
		if l[0].Name == "o" {
			edit = []api.Elem{{Name: "o", Kids: append(edit, api.Elem{Name: "n", Text: "1"})}}
		}
		c, e := reads(t, l, edit, api.OpMerge)
		if e != api.OK {
			t.Fatal(e)
		}
		_, e = applies(t, l, nodes, c)
		came[e]++
	}
	if came[api.OK] < 20 || came[api.ErrLen] < 20 {
		t.Error("the test's own edits:", came)
	}
}
