package model

import (
	"slices"

	"tabulary/api"
	"tabulary/xml"
)

// Elems, Copy and Equal go through nodes by a list of what is left to do, not by
// a call for each depth, for what they are handed may be deep.

// Elems answers nodes as elements of a namespace.
func Elems(l []api.Node, space string) []api.Elem {
	type told struct {
		nodes []api.Node
		elems []api.Elem // as many as there are nodes
	}
	all := make([]api.Elem, len(l))
	left := []told{{l, all}}
	for len(left) > 0 {
		next := left[len(left)-1]
		left = left[:len(left)-1]
		for i, n := range next.nodes {
			e := api.Elem{Space: space, Name: n.Name, Text: n.Value}
			if len(n.Kids) > 0 {
				e.Kids = make([]api.Elem, len(n.Kids))
				left = append(left, told{n.Kids, e.Kids})
			}
			next.elems[i] = e
		}
	}
	return all
}

// Text answers the text of a tree.
func Text(l []api.Node) string {
	return xml.Text(api.Elem{Name: config, Kids: Elems(l, "")})
}

// Check answers ErrMust, if a leaf that must be there isn't.
func Check(l []api.Def, nodes []api.Node) api.Errno {
	if !whole(l, nodes, deepest) {
		return api.ErrMust
	}
	return api.OK
}

// whole tells whether every leaf that must be there is, in so many levels: below
// these no schema defines anything.
func whole(l []api.Def, nodes []api.Node, levels int) bool {
	if levels == 0 {
		return true
	}
	for _, d := range l {
		if d.Kind == api.Leaf && d.Must && place(nodes, d.Name) < 0 {
			return false
		}
	}
	for _, n := range nodes {
		at := Find(l, n.Name)
		if at >= 0 && !whole(l[at].Kids, n.Kids, levels-1) {
			return false
		}
	}
	return true
}

// Copy answers the same nodes, in new memory.
func Copy(l []api.Node) []api.Node {
	all := slices.Clone(l)
	left := [][]api.Node{all}
	for len(left) > 0 {
		nodes := left[len(left)-1]
		left = left[:len(left)-1]
		for i := range nodes {
			nodes[i].Kids = slices.Clone(nodes[i].Kids)
			left = append(left, nodes[i].Kids)
		}
	}
	return all
}

// Equal: are they the same?
func Equal(a, b []api.Node) bool {
	type pair struct {
		a, b []api.Node
	}
	left := []pair{{a, b}}
	for len(left) > 0 {
		next := left[len(left)-1]
		left = left[:len(left)-1]
		if len(next.a) != len(next.b) {
			return false
		}
		for i, n := range next.a {
			other := next.b[i]
			if n.Name != other.Name || n.Value != other.Value {
				return false
			}
			left = append(left, pair{n.Kids, other.Kids})
		}
	}
	return true
}
