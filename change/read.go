package change

import (
	"slices"

	"tabulary/api"
	"tabulary/model"
)

// Read answers elements as changes, in their order; op is the operation of those
// that name none. Of those that may not be the first one's error is the answer.
func Read(l []api.Def, elems []api.Elem, op int) ([]api.Change, api.Errno) {
	return read(l, elems, op, deepest)
}

// read answers elements as changes of so many levels at most: below these no
// schema defines anything, and what is no schema must not lead on without end.
func read(l []api.Def, elems []api.Elem, op, levels int) ([]api.Change, api.Errno) {
	if levels == 0 {
		l = nil
	}
	var changes []api.Change
	for _, e := range elems {
		at := model.Find(l, e.Name)
		if at < 0 {
			return nil, api.ErrName
		}
		c, err := readOne(l[at], e, op, levels)
		if err != api.OK {
			return nil, err
		}
		changes = append(changes, c)
	}
	return changes, api.OK
}

// readOne answers an element of the definition d as a change of so many levels at
// most.
func readOne(d api.Def, e api.Elem, op, levels int) (api.Change, api.Errno) {
	op, ok := operation(e.Attrs, op)
	if !ok {
		return api.Change{}, api.ErrArg
	}
	if d.Kind == api.Leaf {
		if len(e.Kids) > 0 || !mayBe(d, op, e.Text) {
			return api.Change{}, api.ErrValue
		}
		return api.Change{Name: e.Name, Value: e.Text, Op: op}, api.OK
	}
	if e.Text != "" {
		return api.Change{}, api.ErrValue
	}
	kids, err := read(d.Kids, e.Kids, inside(op), levels-1)
	if err != api.OK {
		return api.Change{}, err
	}
	if d.Kind == api.List && !keyed(d.Keys, kids) {
		return api.Change{}, api.ErrKey
	}
	return api.Change{Name: e.Name, Op: op, Kids: kids}, api.OK
}

// operation answers the operation that attributes tell, the last one of several,
// or op, if there are none; false, if one of them tells none.
func operation(attrs []api.Attr, op int) (int, bool) {
	for _, a := range attrs {
		if a.Name != "operation" {
			return 0, false
		}
		op = Op(a.Value)
		// None may be handed in for all, but not be named by an element.
		if op < api.OpMerge {
			return 0, false
		}
	}
	return op, true
}

// mayBe tells whether a change of the leaf d may have a text: what is taken away
// need not be named by its value.
func mayBe(d api.Def, op int, s string) bool {
	return takes(op) && s == "" || model.Value(d, s)
}

// inside answers the operation of the elements in one of op, if they name none.
func inside(op int) int {
	if op == api.OpNone {
		return api.OpNone
	}
	return api.OpMerge
}

// keyed tells whether an entry's changes name each of its keys once, and take
// none away.
func keyed(keys []string, changes []api.Change) bool {
	for _, key := range keys {
		named := func(c api.Change) bool { return c.Name == key }
		at := slices.IndexFunc(changes, named)
		if at < 0 || takes(changes[at].Op) || slices.ContainsFunc(changes[at+1:], named) {
			return false
		}
	}
	return true
}
