package model

import (
	"slices"

	"tabulary/api"
	"tabulary/xml"
)

// config is the name of the element in which a tree is written.
const config = "config"

// Parse answers the tree of a text: Parse's errors (13), ErrForm, if it is no
// element config, and those of Read.
func Parse(l []api.Def, s string) ([]api.Node, api.Errno) {
	e, err := xml.Parse(s)
	if err != api.OK {
		return nil, err
	}
	if e.Name != config || e.Text != "" {
		return nil, api.ErrForm
	}
	return Read(l, e.Kids)
}

// Read answers elements as nodes of a tree, in order. Of those that may not be
// the first one's error is the answer; ErrLen, if there are too many nodes.
func Read(l []api.Def, elems []api.Elem) ([]api.Node, api.Errno) {
	return read(l, elems, deepest)
}

// read answers elements as nodes of so many levels at most: below these no
// schema defines anything, and what is no schema must not lead on without end.
func read(l []api.Def, elems []api.Elem, levels int) ([]api.Node, api.Errno) {
	if levels == 0 {
		l = nil
	}
	var nodes []api.Node
	for _, e := range elems {
		at := Find(l, e.Name)
		if at < 0 {
			return nil, api.ErrName
		}
		n, err := readOne(l[at], e, levels)
		if err != api.OK {
			return nil, err
		}
		if Same(l[at], nodes, n) >= 0 {
			return nil, api.ErrExists
		}
		nodes = append(nodes, n)
	}
	// Not sooner, for an empty container beside another one is an error, too.
	nodes = slices.DeleteFunc(nodes, func(n api.Node) bool {
		return l[Find(l, n.Name)].Kind == api.Container && len(n.Kids) == 0
	})
	if len(nodes) > api.MaxKids {
		return nil, api.ErrLen
	}
	Order(l, nodes)
	return nodes, api.OK
}

// readOne answers an element of the definition d as a node of so many levels at
// most.
func readOne(d api.Def, e api.Elem, levels int) (api.Node, api.Errno) {
	if d.Kind == api.Leaf {
		if len(e.Kids) > 0 || !Value(d, e.Text) {
			return api.Node{}, api.ErrValue
		}
		return api.Node{Name: e.Name, Value: e.Text}, api.OK
	}
	if e.Text != "" {
		return api.Node{}, api.ErrValue
	}
	kids, err := read(d.Kids, e.Kids, levels-1)
	if err != api.OK {
		return api.Node{}, err
	}
	n := api.Node{Name: e.Name, Kids: kids}
	if _, ok := Key(d, n); !ok {
		return api.Node{}, api.ErrKey
	}
	return n, api.OK
}
