package model_test

import (
	"math/rand"
	"runtime/debug"
	"strings"
	"testing"

	"tabulary/api"
	"tabulary/model"
)

// deepNodes answers n nodes, each in the one ahead, around others.
func deepNodes(n int, inside ...api.Node) []api.Node {
	for range n {
		inside = []api.Node{{Name: "b", Kids: inside}}
	}
	return inside
}

// deepElems does the same of elements.
func deepElems(n int, inside ...api.Elem) []api.Elem {
	for range n {
		inside = []api.Elem{{Name: "b", Kids: inside}}
	}
	return inside
}

// P0: what is handed in may be so deep that a call for each depth would be too
// many.
func TestDeep(t *testing.T) {
	defer debug.SetMaxStack(debug.SetMaxStack(1 << 20))
	const n = 300000
	l := deepNodes(n, value("a", "1"))
	same, other, shorter := deepNodes(n, value("a", "1")), deepNodes(n, value("a", "2")), deepNodes(n-1, value("a", "1"))
	if !model.Equal(l, same) || model.Equal(l, other) || model.Equal(l, shorter) || model.Equal(shorter, l) {
		t.Error("Equal")
	}
	if c := model.Copy(l); !model.Equal(c, l) || &c[0] == &l[0] {
		t.Error("Copy")
	}
	if s := model.Text(l); s != in(strings.Repeat("<b>", n)+"<a>1</a>"+strings.Repeat("</b>", n)) {
		t.Errorf("Text: %.100s", s)
	}
	e := model.Elems(l, "u")
	for range n {
		if len(e) != 1 || e[0].Name != "b" || e[0].Space != "u" {
			t.Fatal("Elems")
		}
		e = e[0].Kids
	}
	if len(e) != 1 || e[0].Text != "1" || e[0].Kids != nil {
		t.Error("Elems")
	}
	round := []api.Def{box("b", text("a"))}
	round[0].Kids = append(round[0].Kids, round[0])
	round[0].Kids[1].Kids = round[0].Kids
	if model.Right(round) {
		t.Error("a schema without end")
	}
	if nodes, err := model.Read(round, deepElems(n, saying("a", "1"))); err == api.OK || nodes != nil {
		t.Error("Read:", err)
	}
	model.Check(round, l)
	right := []api.Def{nested(5, text("x"))}
	if nodes, err := model.Read(right, deepElems(n)); err != api.ErrName || nodes != nil {
		t.Error("Read:", err)
	}
	model.Check(right, l)
}

// P0: schemas, elements and nodes that stand in themselves.
func TestRound(t *testing.T) {
	for _, d := range []api.Def{box("b", text("a")), list("b", "a", text("a"))} {
		l := []api.Def{text("a"), d}
		l[1].Kids = l
		if model.Right(l) || model.Right(l[1:]) {
			t.Error("a schema that stands in itself:", d.Kind)
		}
		e := []api.Elem{saying("a", "1"), {Name: "b"}}
		e[1].Kids = e
		if nodes, err := model.Read(l, e); err == api.OK || nodes != nil {
			t.Error(err)
		}
		if nodes, err := model.Read([]api.Def{text("a"), d}, e); err != api.ErrName || nodes != nil {
			t.Error(err)
		}
		n := []api.Node{value("a", "1"), {Name: "b"}}
		n[1].Kids = n
		model.Check(l, n)
		model.Check([]api.Def{text("a"), d}, n)
		model.Order(l, n)
		model.Same(l[1], n, n[1])
		if keys, ok := model.Key(l[1], n[1]); len(keys) != len(d.Keys) || !ok {
			t.Error(keys, ok)
		}
	}
	l := []api.Def{box("b", text("a"))}
	l[0].Kids = l
	e := []api.Elem{{Name: "b"}}
	e[0].Kids = e
	if nodes, err := model.Read(l, e); err == api.OK || nodes != nil {
		t.Error(err)
	}
	n := []api.Node{{Name: "b"}}
	n[0].Kids = n
	model.Check(l, n)
}

// P0: schemas, elements and nodes that may not be, of all calls.
func TestAnything(t *testing.T) {
	rnd := rand.New(rand.NewSource(17))
	m := &maker{rnd, 3, 0}
	for range 6000 {
		l := m.schema(1+rnd.Intn(4), 1+rnd.Intn(5))
		for range rnd.Intn(6) {
			m.spoil(&l)
		}
		other := m.schema(1+rnd.Intn(4), 1+rnd.Intn(5))
		m.left = 60
		elems := m.elems(other, 3)
		nodes, _ := model.Read(other, elems)
		for _, l := range [][]api.Def{l, other, nil, {{}}, {{Kind: api.List}}} {
			if got, e := model.Read(l, elems); e != api.OK && got != nil {
				t.Fatal(got, e)
			}
			model.Check(l, nodes)
			model.Order(l, nodes)
			for _, d := range l {
				for _, n := range nodes {
					model.Same(d, nodes, n)
					if keys, ok := model.Key(d, n); !ok && keys != nil {
						t.Fatal(keys)
					}
				}
				model.Value(d, m.value(api.Def{}))
			}
			if got, e := model.Parse(l, model.Text(nodes)); e != api.OK && got != nil {
				t.Fatal(got, e)
			}
		}
		b := make([]byte, rnd.Intn(30))
		rnd.Read(b)
		s := string(b)
		model.Find(l, s)
		if nodes, e := model.Parse(l, s); e != api.ErrForm || nodes != nil {
			t.Fatalf("%q: %d", s, e)
		}
		odd := []api.Node{value(s, s), node(s, value("", s), api.Node{Name: "a", Value: s, Kids: []api.Node{{}}}), {}}
		model.Order(l, odd)
		model.Check(l, odd)
		if !model.Equal(odd, model.Copy(odd)) || len(model.Elems(odd, s)) != 3 || model.Text(odd) == "" {
			t.Fatal(odd)
		}
	}
}
