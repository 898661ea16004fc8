package change

import (
	"slices"

	"tabulary/api"
	"tabulary/model"
)

// Apply answers the tree behind the changes, which are made one behind the
// other; of those that can't be made the first one's error is the answer.
func Apply(l []api.Def, nodes []api.Node, changes []api.Change) ([]api.Node, api.Errno) {
	return apply(l, model.Copy(nodes), changes, deepest)
}

// apply answers what the changes make of nodes beside each other, which are used
// up: those of so many levels at most, for below these no schema defines anything.
func apply(l []api.Def, nodes []api.Node, changes []api.Change, levels int) ([]api.Node, api.Errno) {
	if levels == 0 {
		l = nil
	}
	for _, c := range changes {
		at := model.Find(l, c.Name)
		if at < 0 {
			return nil, api.ErrName
		}
		var err api.Errno
		nodes, err = applyOne(l[at], nodes, c, levels)
		if err != api.OK {
			return nil, err
		}
		if len(nodes) > api.MaxKids {
			return nil, api.ErrLen
		}
	}
	model.Order(l, nodes)
	return nodes, api.OK
}

// applyOne answers what a change of a node of the definition d makes of nodes
// beside each other, which are used up.
func applyOne(d api.Def, nodes []api.Node, c api.Change, levels int) ([]api.Node, api.Errno) {
	n := api.Node{Name: c.Name, Kids: keys(d, c)}
	at := model.Same(d, nodes, n)
	if err := allowed(d, c.Op, at >= 0); err != api.OK {
		return nil, err
	}
	if takes(c.Op) {
		return without(nodes, at), api.OK
	}
	if d.Kind == api.Leaf {
		if c.Op == api.OpNone {
			return nodes, api.OK
		}
		return with(nodes, at, api.Node{Name: c.Name, Value: c.Value}), api.OK
	}
	if at >= 0 && c.Op != api.OpReplace {
		n = nodes[at]
	}
	kids, err := apply(d.Kids, n.Kids, others(d, c), levels-1)
	if err != api.OK {
		return nil, err
	}
	if d.Kind == api.Container && len(kids) == 0 {
		return without(nodes, at), api.OK
	}
	n.Kids = kids
	return with(nodes, at, n), api.OK
}

// allowed answers why an operation may not be on a node of the definition d that
// is there, or isn't.
func allowed(d api.Def, op int, there bool) api.Errno {
	switch {
	case op == api.OpCreate && there:
		return api.ErrExists
	case op == api.OpDelete && !there:
		return api.ErrGone
	case op == api.OpNone && d.Kind != api.Container && !there:
		return api.ErrGone
	}
	return api.OK
}

// keys answers the leaves of the keys that a change of an entry names.
func keys(d api.Def, c api.Change) []api.Node {
	var l []api.Node
	for _, key := range d.Keys {
		at := slices.IndexFunc(c.Kids, func(kid api.Change) bool { return kid.Name == key })
		if at >= 0 {
			l = append(l, api.Node{Name: key, Value: c.Kids[at].Value})
		}
	}
	return l
}

// others answers a change's own changes, but those of keys.
func others(d api.Def, c api.Change) []api.Change {
	var l []api.Change
	for _, kid := range c.Kids {
		if !slices.Contains(d.Keys, kid.Name) {
			l = append(l, kid)
		}
	}
	return l
}

// with answers nodes with n in the place at, or behind the others, if at is -1.
func with(nodes []api.Node, at int, n api.Node) []api.Node {
	if at < 0 {
		return append(nodes, n)
	}
	nodes[at] = n
	return nodes
}

// without answers nodes without the one in the place at; all, if at is -1.
func without(nodes []api.Node, at int) []api.Node {
	if at < 0 {
		return nodes
	}
	return slices.Delete(nodes, at, at+1)
}
