package sieve_test

import (
	"math/rand"
	"slices"
	"strconv"
	"testing"

	"tabulary/api"
	"tabulary/model"
	"tabulary/sieve"
)

// A maker makes schemas, trees of them, and filters.
type maker struct {
	*rand.Rand
	left int // how many more nodes there may be
}

// one answers one of these.
func (m *maker) one(l ...string) string {
	return l[m.Intn(len(l))]
}

// schema answers a schema of so many levels at most; the same names come again at
// other levels.
func (m *maker) schema(levels, most int) []api.Def {
	var l []api.Def
	for i := range 1 + m.Intn(most) {
		d := text("abcdef"[i : i+1])
		if levels > 1 && m.Intn(2) == 0 {
			d = api.Def{Name: d.Name, Kind: 1 + m.Intn(2), Kids: m.schema(levels-1, most)}
		}
		if d.Kind == api.List {
			d.Keys = m.keys(&d)
		}
		l = append(l, d)
	}
	m.Shuffle(len(l), func(i, j int) { l[i], l[j] = l[j], l[i] })
	return l
}

// keys answers the names of some leaves of a list, which has one then.
func (m *maker) keys(d *api.Def) []string {
	var l []string
	for _, i := range m.Perm(len(d.Kids)) {
		if d.Kids[i].Kind == api.Leaf && len(l) < 1+m.Intn(3) {
			l = append(l, d.Kids[i].Name)
		}
	}
	if len(l) == 0 {
		d.Kids[0] = text(d.Kids[0].Name)
		l = []string{d.Kids[0].Name}
	}
	return l
}

// value answers a value of a leaf, of few, so that some are alike.
func (m *maker) value() string {
	return m.one("", "1", "1", "2", "3", " ")
}

// tree answers a tree of a schema, in order.
func (m *maker) tree(l []api.Def) []api.Node {
	var nodes []api.Node
	for _, d := range l {
		most := 1
		if d.Kind == api.List {
			most = 1 + m.Intn(4)
		}
		for range most {
			if m.left--; m.left < 0 || m.Intn(4) == 0 {
				continue
			}
			n := api.Node{Name: d.Name}
			if d.Kind == api.Leaf {
				n.Value = m.value()
			} else {
				n.Kids = m.tree(d.Kids)
			}
			for _, key := range d.Keys {
				if !slices.ContainsFunc(n.Kids, func(kid api.Node) bool { return kid.Name == key }) {
					n.Kids = append(n.Kids, value(key, m.value()))
				}
			}
			model.Order(d.Kids, n.Kids)
			if d.Kind == api.Container && len(n.Kids) == 0 || model.Same(d, nodes, n) >= 0 {
				continue
			}
			nodes = append(nodes, n)
		}
	}
	model.Order(l, nodes)
	return nodes
}

// prune answers nodes without some, at all depths; what they were in stays.
func (m *maker) prune(nodes []api.Node) []api.Node {
	var l []api.Node
	for _, n := range nodes {
		if m.Intn(8) > 0 {
			l = append(l, api.Node{Name: n.Name, Value: n.Value, Kids: m.prune(n.Kids)})
		}
	}
	return l
}

// over answers elements of some nodes, changed here and there; most of them choose
// something of these.
func (m *maker) over(nodes []api.Node, often int) []api.Elem {
	var l []api.Elem
	for _, n := range nodes {
		if m.Intn(3) == 0 {
			continue
		}
		e := api.Elem{Name: n.Name, Text: n.Value, Space: m.one("", "", "u")}
		if m.Intn(4) > 0 {
			e.Kids = m.over(n.Kids, often)
		}
		switch m.Intn(often) {
		case 0:
			e.Text = ""
		case 1:
			e.Text = m.value()
		case 2:
			e.Name = m.one("a", "b", "c", "d", "e", "f", "zip")
		case 3:
			l = append(l, e)
		case 4:
			e.Kids = append(e.Kids, api.Elem{Name: m.one("a", "b", "c", "zip"), Text: m.value()})
		case 5:
			e.Attrs = []api.Attr{{Name: m.one("operation", "a"), Value: m.value()}}
		}
		l = append(l, e)
	}
	m.Shuffle(len(l), func(i, j int) { l[i], l[j] = l[j], l[i] })
	return l
}

// made answers a schema, a tree of it or what is left of one, and a filter.
func made(seed int64) (*maker, []api.Def, []api.Node, []api.Elem) {
	m := &maker{rand.New(rand.NewSource(seed)), 60}
	l := m.schema(1+m.Intn(6), 1+m.Intn(6))
	nodes := m.tree(l)
	whole := nodes
	if m.Intn(2) == 0 {
		nodes = m.prune(nodes)
	}
	filter := m.over(whole, 6+m.Intn(20))
	for range m.Intn(2) {
		filter = append(filter, m.over(whole, 6+m.Intn(20))...)
	}
	return m, l, nodes, filter
}

// P16.1, P16.2: filters of all kinds, of trees and of what is left of trees.
func TestAnyFilter(t *testing.T) {
	none, some, all := 0, 0, 0
	for seed := range int64(40000) {
		_, l, nodes, filter := made(seed)
		switch got := filters(t, l, nodes, filter); {
		case len(nodes) == 0 || len(filter) == 0:
		case len(got) == 0:
			none++
		case alike(got, nodes):
			all++
		default:
			some++
		}
	}
	if none < 2000 || some < 8000 || all < 5000 {
		t.Error("the test's own filters:", none, some, all)
	}
}

// P16.1: several elements choose together what they choose one by one, in whatever
// order they stand, how often they do, and whatever beside their names and texts is
// in them.
func TestTogether(t *testing.T) {
	for seed := range int64(8000) {
		m, l, nodes, filter := made(seed)
		want := sieve.Filter(l, nodes, filter)
		if got := sieve.Filter(l, nodes, append(slices.Clone(filter), filter...)); !alike(got, want) {
			t.Fatalf("%v twice: %v, want %v", filter, got, want)
		}
		m.Shuffle(len(filter), func(i, j int) { filter[i], filter[j] = filter[j], filter[i] })
		if got := sieve.Filter(l, nodes, bare(filter)); !alike(got, want) {
			t.Fatalf("%v in another order: %v, want %v", filter, got, want)
		}
		sum := 0
		for _, e := range filter {
			got := sieve.Filter(l, nodes, []api.Elem{e})
			if sum += count(got); !stands(got, want) {
				t.Fatalf("%v alone: %v, and among others %v", e, got, want)
			}
		}
		if sum < count(want) {
			t.Fatalf("%v: %v, more than all of them choose", filter, want)
		}
	}
}

// bare answers elements without their namespaces and attributes.
func bare(l []api.Elem) []api.Elem {
	var all []api.Elem
	for _, e := range l {
		all = append(all, api.Elem{Name: e.Name, Text: e.Text, Kids: bare(e.Kids)})
	}
	return all
}

// P16.2: what was chosen is all chosen again by the same filter.
func TestTwice(t *testing.T) {
	for seed := range int64(8000) {
		_, l, nodes, filter := made(seed)
		once := sieve.Filter(l, nodes, filter)
		if twice := filters(t, l, once, filter); !alike(twice, once) {
			t.Fatalf("%v: %v, and of that %v", filter, once, twice)
		}
	}
}

// P16.2: elements that stand for the whole tree choose it: those of its nodes, with
// others among them, too, and those of its nodes' names.
func TestAnyWhole(t *testing.T) {
	many := 0
	for seed := range int64(8000) {
		m, l, nodes, filter := made(seed)
		elems := model.Elems(nodes, m.one("", "u"))
		m.Shuffle(len(elems), func(i, j int) { elems[i], elems[j] = elems[j], elems[i] })
		var names []api.Elem
		for _, d := range l {
			names = append(names, api.Elem{Name: d.Name})
		}
		for _, whole := range [][]api.Elem{elems, append(elems, filter...), names, append(filter, names...)} {
			if got := filters(t, l, nodes, whole); !alike(got, nodes) {
				t.Fatalf("Filter(%v, %v): %v", nodes, whole, got)
			}
		}
		if got := sieve.Filter(l, nodes, nil); len(got) > 0 {
			t.Fatal(got)
		}
		if count(nodes) > 9 {
			many++
		}
	}
	if many < 1500 {
		t.Error("the test's own trees:", many)
	}
}

// P16.1: an entry that is chosen has the keys that it had.
func TestKeysStay(t *testing.T) {
	entries := 0
	var hold func(l []api.Def, part, nodes []api.Node)
	hold = func(l []api.Def, part, nodes []api.Node) {
		for _, n := range part {
			d, _ := defined(l, n.Name)
			if d.Kind == api.Leaf {
				continue
			}
			at := 0
			if d.Kind == api.List {
				if at = model.Same(d, nodes, n); at < 0 {
					t.Fatalf("%v is no entry of %v", n, nodes)
				}
				entries++
			} else {
				at = slices.IndexFunc(nodes, func(own api.Node) bool { return own.Name == n.Name })
			}
			hold(d.Kids, n.Kids, nodes[at].Kids)
		}
	}
	for seed := range int64(8000) {
		m := &maker{rand.New(rand.NewSource(seed)), 60}
		l := m.schema(2+m.Intn(4), 1+m.Intn(6))
		nodes := m.tree(l)
		hold(l, sieve.Filter(l, nodes, m.over(nodes, 6+m.Intn(20))), nodes)
	}
	if entries < 3000 {
		t.Error("the test's own entries: " + strconv.Itoa(entries))
	}
}
