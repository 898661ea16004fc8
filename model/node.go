package model

import (
	"cmp"
	"slices"

	"tabulary/api"
)

// place answers the place of the first node of a name; -1, if there is none.
func place(l []api.Node, name string) int {
	return slices.IndexFunc(l, func(n api.Node) bool { return n.Name == name })
}

// Key answers the values that d's keys have in n, in the order of the keys;
// false, if one isn't there. What is no list has no keys.
func Key(d api.Def, n api.Node) ([]string, bool) {
	if d.Kind != api.List {
		return nil, true
	}
	var l []string
	for _, key := range d.Keys {
		at := place(n.Kids, key)
		if at < 0 {
			return nil, false
		}
		l = append(l, n.Kids[at].Value)
	}
	return l, true
}

// Same answers the place in l of the node of the definition d that is the same
// one as n; -1, if there is none. An entry without one of its keys is the same
// one as no other.
func Same(d api.Def, l []api.Node, n api.Node) int {
	keys, ok := Key(d, n)
	if !ok {
		return -1
	}
	return slices.IndexFunc(l, func(other api.Node) bool {
		if other.Name != n.Name {
			return false
		}
		others, ok := Key(d, other)
		return ok && slices.Equal(others, keys)
	})
}

// Order puts the nodes of one list in order, in their place: as their
// definitions stand, and a list's entries by their keys.
func Order(l []api.Def, nodes []api.Node) {
	slices.SortStableFunc(nodes, func(a, b api.Node) int {
		i, j := Find(l, a.Name), Find(l, b.Name)
		if i != j || i < 0 {
			return cmp.Compare(i, j)
		}
		return byKeys(l[i], a, b)
	})
}

// byKeys holds two nodes of one definition against each other by the values of
// their keys, one key behind the other.
func byKeys(d api.Def, a, b api.Node) int {
	first, _ := Key(d, a)
	second, _ := Key(d, b)
	return slices.Compare(first, second)
}
