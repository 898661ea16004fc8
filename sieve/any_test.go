package sieve_test

import (
	"math/rand"
	"runtime/debug"
	"testing"

	"tabulary/api"
	"tabulary/sieve"
)

// deepNodes answers n nodes, each in the one ahead.
func deepNodes(n int) []api.Node {
	inside := []api.Node{value("a", "1")}
	for range n {
		inside = []api.Node{value("a", "1"), {Name: "b", Kids: inside}}
	}
	return inside
}

// deepElems does the same of elements.
func deepElems(n int, inside ...api.Elem) []api.Elem {
	for range n {
		inside = []api.Elem{{Name: "b", Kids: inside}}
	}
	return inside
}

// round answers a schema that stands in itself.
func round(d api.Def) []api.Def {
	l := []api.Def{text("a"), d}
	l[1].Kids = l
	return l
}

// P0: what is handed in may be so deep that a call for each depth would be too
// many.
func TestDeep(t *testing.T) {
	defer debug.SetMaxStack(debug.SetMaxStack(1 << 20))
	const n = 300000
	right, small := nested(10)
	for _, l := range [][]api.Def{right, round(box("b", text("a"))), round(list("b", "a", text("a"))), nil} {
		for _, nodes := range [][]api.Node{small, deepNodes(n), nil} {
			for _, filter := range [][]api.Elem{deepElems(n), deepElems(n, api.Elem{Name: "a"}), deepElems(n, api.Elem{Name: "a", Text: "1"}), deepElems(5), deepElems(1), nil} {
				sieve.Filter(l, nodes, filter)
			}
		}
	}
	// elements that go on below a tree choose nothing
	for _, filter := range [][]api.Elem{deepElems(n), deepElems(n, api.Elem{Name: "a"})} {
		if got := sieve.Filter(right, small, filter); len(got) > 0 {
			t.Error(got)
		}
	}
}

// P0: schemas, nodes and elements that stand in themselves.
func TestRound(t *testing.T) {
	right, small := nested(10)
	n := []api.Node{value("a", "1"), {Name: "b"}}
	n[1].Kids = n
	for _, d := range []api.Def{box("b", text("a")), list("b", "a", text("a"))} {
		for _, l := range [][]api.Def{right, round(d), {text("a"), d}, nil} {
			for _, first := range []api.Elem{{Name: "a"}, {Name: "a", Text: "1"}, {Name: "a", Text: "2"}, {Name: "b"}} {
				e := []api.Elem{first, {Name: "b"}}
				e[1].Kids = e
				for _, filter := range [][]api.Elem{e, e[1:], {first}, deepElems(3), nil} {
					for _, nodes := range [][]api.Node{n, small, deepNodes(20)} {
						sieve.Filter(l, nodes, filter)
					}
				}
			}
		}
	}
}

// spoil changes something in a schema.
func (m *maker) spoil(l *[]api.Def) {
	if m.Intn(8) == 0 || len(*l) == 0 {
		*l = append(*l, text(m.one("a", "b", "", "zip")))
		return
	}
	d := &(*l)[m.Intn(len(*l))]
	if len(d.Kids) > 0 && m.Intn(3) > 0 {
		m.spoil(&d.Kids)
		return
	}
	switch m.Intn(6) {
	case 0:
		d.Name = m.one("", "1", "a", "b", "zip")
	case 1:
		d.Kind = m.Intn(5)
	case 2:
		d.Type = m.Intn(6) - 1
	case 3:
		d.Keys = append([]string{m.one("", "a", "b", "zip", d.Name)}, d.Keys...)
	case 4:
		d.Keys = d.Keys[:m.Intn(len(d.Keys)+1)]
	case 5:
		d.Kids = d.Kids[:m.Intn(len(d.Kids)+1)]
	}
}

// odd answers nodes that are no tree.
func (m *maker) odd(depth int) []api.Node {
	var l []api.Node
	for range m.Intn(5) {
		n := value(m.one("a", "b", "c", "", "zip"), m.one("", "1", "2", "\x80"))
		if depth > 0 {
			n.Kids = m.odd(depth - 1)
		}
		l = append(l, n)
	}
	return l
}

// oddElems answers elements that no document has.
func (m *maker) oddElems(depth int) []api.Elem {
	var l []api.Elem
	for range m.Intn(5) {
		e := api.Elem{Name: m.one("a", "b", "c", "", "zip"), Text: m.one("", "", "1", "2", "\x80")}
		if depth > 0 {
			e.Kids = m.oddElems(depth - 1)
		}
		l = append(l, e)
	}
	return l
}

// P0: schemas, nodes and elements that don't go with each other, or that may not
// be. What is chosen stands in the nodes all the same, and the call answers alike
// when it is asked again.
func TestAnything(t *testing.T) {
	rnd := rand.New(rand.NewSource(16))
	for range 6000 {
		m := &maker{rnd, 40}
		other := m.schema(1+rnd.Intn(4), 1+rnd.Intn(5))
		nodes := m.tree(other)
		l := m.schema(1+rnd.Intn(4), 1+rnd.Intn(5))
		for range rnd.Intn(6) {
			m.spoil(&l)
		}
		for _, l := range [][]api.Def{l, other, nil, {{}}, {{Kind: api.List, Keys: []string{""}}}, {{Kind: api.Container, Kids: []api.Def{{}}}}} {
			for _, nodes := range [][]api.Node{nodes, m.odd(4), {{}}, nil} {
				for _, filter := range [][]api.Elem{m.over(nodes, 8), m.oddElems(4), {{}}, {{Kids: []api.Elem{{}}}}} {
					got := sieve.Filter(l, nodes, filter)
					if !stands(got, nodes) {
						t.Fatalf("%v doesn't stand in %v", got, nodes)
					}
					if again := sieve.Filter(l, nodes, filter); !alike(again, got) {
						t.Fatalf("%v, and then %v", got, again)
					}
				}
			}
		}
	}
}
