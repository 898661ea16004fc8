package change_test

import (
	"math/rand"
	"runtime/debug"
	"testing"

	"tabulary/api"
	"tabulary/change"
	"tabulary/model"
)

// deepElems answers n elements, each in the one ahead.
func deepElems(n int) []api.Elem {
	var inside []api.Elem
	for range n {
		inside = []api.Elem{{Name: "b", Kids: inside}}
	}
	return inside
}

// deepChanges does the same of changes.
func deepChanges(n, op int) []api.Change {
	var inside []api.Change
	for range n {
		inside = []api.Change{{Name: "b", Op: op, Kids: inside}}
	}
	return inside
}

// deepNodes does the same of nodes.
func deepNodes(n int) []api.Node {
	var inside []api.Node
	for range n {
		inside = []api.Node{{Name: "b", Kids: inside}}
	}
	return inside
}

// round answers a schema that stands in itself.
func round(d api.Def) []api.Def {
	l := []api.Def{text("a"), d}
	l[1].Kids = l
	return l
}

// P0: what is handed in may be so deep that a call for each depth would be too
// many.
func TestDeep(t *testing.T) {
	defer debug.SetMaxStack(debug.SetMaxStack(1 << 20))
	const n = 300000
	right := []api.Def{box("b", box("b", text("x")))}
	for _, op := range all {
		for _, l := range [][]api.Def{right, round(box("b", text("a"))), nil} {
			if got, e := change.Read(l, deepElems(n), op); e == api.OK || got != nil {
				t.Error("Read:", op, e)
			}
			for _, nodes := range [][]api.Node{nil, deepNodes(2), deepNodes(n)} {
				if got, e := change.Apply(l, nodes, deepChanges(n, op)); e != api.OK && got != nil {
					t.Error("Apply:", op, e)
				}
			}
		}
	}
	if _, e := change.Apply(right, deepNodes(n), deepChanges(n, api.OpMerge)); e != api.ErrName {
		t.Error("Apply:", e)
	}
	l := deepNodes(n)
	if got, e := change.Apply(right, l, nil); e != api.OK || !model.Equal(got, l) || &got[0] == &l[0] {
		t.Error("Apply:", e)
	}
}

// P0: schemas, elements and changes that stand in themselves.
func TestRound(t *testing.T) {
	for _, d := range []api.Def{box("b", text("a")), list("b", "a", text("a"))} {
		for _, l := range [][]api.Def{round(d), {text("a"), d}} {
			for _, op := range all {
				e := []api.Elem{{Name: "a", Text: "1"}, {Name: "b"}}
				e[1].Kids = e
				if got, err := change.Read(l, e, op); err != api.ErrName || got != nil {
					t.Error("Read:", op, err)
				}
				c := []api.Change{{Name: "a", Value: "1", Op: api.OpMerge}, {Name: "b", Op: op}}
				c[1].Kids = c
				for _, nodes := range [][]api.Node{nil, {{Name: "a"}}, {{Name: "b", Kids: []api.Node{{Name: "a", Value: "1"}}}}} {
					if got, err := change.Apply(l, nodes, c); err != api.OK && got != nil {
						t.Error("Apply:", op, err)
					}
				}
			}
		}
	}
}

// spoil changes something in a schema.
func (m *maker) spoil(l *[]api.Def) {
	if m.Intn(8) == 0 || len(*l) == 0 {
		*l = append(*l, m.leaf(m.one("a0", "b1", "", "x")))
		return
	}
	d := &(*l)[m.Intn(len(*l))]
	if len(d.Kids) > 0 && m.Intn(3) > 0 {
		m.spoil(&d.Kids)
		return
	}
	switch m.Intn(6) {
	case 0:
		d.Name = m.one("", "1", "a0", "b1", "x")
	case 1:
		d.Kind = m.Intn(5)
	case 2:
		d.Type = m.Intn(6) - 1
	case 3:
		d.Keys = append([]string{m.one("", "a0", "b1", "x", d.Name)}, d.Keys...)
	case 4:
		d.Keys = d.Keys[:m.Intn(len(d.Keys)+1)]
	case 5:
		d.Kids = d.Kids[:m.Intn(len(d.Kids)+1)]
	}
}

// changes answers changes of all kinds, whether Read could have made them or not.
func (m *maker) changes(depth int) []api.Change {
	var l []api.Change
	for range m.Intn(5) {
		c := api.Change{Name: m.one("a0", "b0", "_0", "Z0", "a1", "b1", "x"), Value: m.one("", "1", "\x80"), Op: m.Intn(8) - 1}
		if depth > 0 {
			c.Kids = m.changes(depth - 1)
		}
		l = append(l, c)
	}
	return l
}

// P0: schemas, elements, changes and nodes that don't go with each other, or that
// may not be, of all calls.
func TestAnything(t *testing.T) {
	rnd := rand.New(rand.NewSource(15))
	for range 6000 {
		m := &maker{rnd, 3, 3, 40}
		other := m.schema(1+rnd.Intn(4), 1+rnd.Intn(5))
		nodes := m.tree(t, other)
		elems := m.edit(other, 5)
		l := m.schema(1+rnd.Intn(4), 1+rnd.Intn(5))
		for range rnd.Intn(6) {
			m.spoil(&l)
		}
		ops := []int{rnd.Intn(6), rnd.Int(), -rnd.Int()}
		for _, l := range [][]api.Def{l, other, nil, {{}}, {{Kind: api.List, Keys: []string{""}}}, {{Kind: api.Container, Kids: []api.Def{{}}}}} {
			for _, op := range ops {
				c, e := change.Read(l, elems, op)
				if e != api.OK && c != nil {
					t.Fatal(c, e)
				}
				if got, e := change.Apply(l, nodes, c); e != api.OK && got != nil {
					t.Fatal(got, e)
				}
			}
			odd := []api.Node{{}, {Name: "a0", Value: "\x80", Kids: []api.Node{{}, {Name: "a0"}}}, {Name: "b0"}, {Name: "b0"}}
			for _, nodes := range [][]api.Node{nodes, odd, nil} {
				if got, e := change.Apply(l, nodes, m.changes(4)); e != api.OK && got != nil {
					t.Fatal(got, e)
				}
				if got, e := change.Apply(l, nodes, []api.Change{{}, {Kids: []api.Change{{}}}}); e != api.OK && got != nil {
					t.Fatal(got, e)
				}
			}
		}
		b := make([]byte, rnd.Intn(10))
		rnd.Read(b)
		if got := change.Op(string(b)); got != -1 {
			t.Fatal(b, got)
		}
	}
}
