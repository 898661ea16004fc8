package change_test

import (
	"fmt"
	"maps"
	"slices"
	"sort"
	"strings"
	"testing"

	"tabulary/api"
	"tabulary/change"
	"tabulary/model"
	"tabulary/xml"
)

// What the package should answer, reckoned apart from it, as the chapter's words
// have it: a tree is laid flat, as the paths of all that is in it, and a change
// puts paths there, or takes all that begin with one.

// A flat tree: for each leaf its path and its value, for each entry its path.
type flat map[string]string

// step answers a definition's part of a path: where it stands, and, of a list's
// entry, the values of its keys, each with an end that no value holds. No step is
// the beginning of another one, and steps are in order as the nodes are.
func step(l []api.Def, i int, keys map[string]string) string {
	s := fmt.Sprintf("%02d\x00", i)
	if l[i].Kind == 2 {
		for _, key := range l[i].Keys {
			s += keys[key] + "\x00"
		}
	}
	return s
}

// where answers the place of a name's definition; -1.
func where(l []api.Def, name string) int {
	for i := range l {
		if l[i].Name == name {
			return i
		}
	}
	return -1
}

// lay lays nodes flat, behind a path.
func (f flat) lay(l []api.Def, path string, nodes []api.Node) {
	for _, n := range nodes {
		i := where(l, n.Name)
		values := map[string]string{}
		for _, kid := range n.Kids {
			values[kid.Name] = kid.Value
		}
		own := path + step(l, i, values)
		if l[i].Kind != 1 {
			f[own] = n.Value
		}
		f.lay(l[i].Kids, own, n.Kids)
	}
}

// tree answers what stands behind a path as nodes.
func (f flat) tree(l []api.Def, path string) []api.Node {
	var nodes []api.Node
	for i, d := range l {
		own := path + step(l, i, nil)
		switch d.Kind {
		case 1:
			if kids := f.tree(d.Kids, own); len(kids) > 0 {
				nodes = append(nodes, api.Node{Name: d.Name, Kids: kids})
			}
		case 2:
			for _, entry := range f.entries(path+step(l, i, nil)[:3], len(d.Keys)) {
				nodes = append(nodes, api.Node{Name: d.Name, Kids: f.tree(d.Kids, entry)})
			}
		case 3:
			if value, ok := f[own]; ok {
				nodes = append(nodes, api.Node{Name: d.Name, Value: value})
			}
		}
	}
	return nodes
}

// entries answers the paths of a list's entries, in order.
func (f flat) entries(path string, keys int) []string {
	var l []string
	for own := range f {
		if strings.HasPrefix(own, path) && strings.Count(own[len(path):], "\x00") == keys {
			l = append(l, own)
		}
	}
	sort.Strings(l)
	return l
}

// there tells whether anything stands at a path.
func (f flat) there(path string) bool {
	for own := range f {
		if strings.HasPrefix(own, path) {
			return true
		}
	}
	return false
}

// take takes away all that stands at a path.
func (f flat) take(path string) {
	maps.DeleteFunc(f, func(own, _ string) bool { return strings.HasPrefix(own, path) })
}

// make makes changes of what stands behind a path.
func (f flat) make(l []api.Def, path string, changes []api.Change) api.Errno {
	for _, c := range changes {
		i := where(l, c.Name)
		if i < 0 {
			return api.ErrName
		}
		if e := f.makeOne(l, i, path, c); e != api.OK {
			return e
		}
		if len(f.tree(l, path)) > 256 {
			return api.ErrLen
		}
	}
	return api.OK
}

// makeOne makes a change of a node of the definition i.
func (f flat) makeOne(l []api.Def, i int, path string, c api.Change) api.Errno {
	d, values := l[i], map[string]string{}
	for _, kid := range c.Kids {
		values[kid.Name] = kid.Value
	}
	own := path + step(l, i, values)
	there := f.there(own)
	if c.Op == 3 && there {
		return api.ErrExists
	}
	if !there && (c.Op == 4 || c.Op == 0 && d.Kind != 1) {
		return api.ErrGone
	}
	if c.Op == 4 || c.Op == 5 || c.Op == 2 {
		f.take(own)
	}
	if c.Op == 4 || c.Op == 5 || c.Op == 0 && d.Kind == 3 {
		return api.OK
	}
	if d.Kind != 1 {
		f[own] = c.Value
	}
	var left []api.Change
	for _, kid := range c.Kids {
		if d.Kind == 2 && slices.Contains(d.Keys, kid.Name) {
			f[own+step(d.Kids, where(d.Kids, kid.Name), nil)] = kid.Value
		} else {
			left = append(left, kid)
		}
	}
	return f.make(d.Kids, own, left)
}

// applyApart answers what Apply should, of changes that came of Read.
func applyApart(l []api.Def, nodes []api.Node, changes []api.Change) ([]api.Node, api.Errno) {
	f := flat{}
	f.lay(l, "", nodes)
	if e := f.make(l, "", changes); e != api.OK {
		return nil, e
	}
	return f.tree(l, ""), api.OK
}

// readApart answers what Read should.
func readApart(l []api.Def, elems []api.Elem, op int) ([]api.Change, api.Errno) {
	var all []api.Change
	for _, e := range elems {
		c, err := readAlone(l, e, op)
		if err != api.OK {
			return nil, err
		}
		all = append(all, c)
	}
	return all, api.OK
}

// readAlone answers an element as a change, whatever is beside it.
func readAlone(l []api.Def, e api.Elem, op int) (api.Change, api.Errno) {
	i := where(l, e.Name)
	if i < 0 {
		return api.Change{}, api.ErrName
	}
	numbers := map[string]int{"merge": 1, "replace": 2, "create": 3, "delete": 4, "remove": 5}
	for _, a := range e.Attrs {
		if a.Name != "operation" || numbers[a.Value] == 0 {
			return api.Change{}, api.ErrArg
		}
		op = numbers[a.Value]
	}
	d := l[i]
	nothing := e.Text == "" && (d.Kind != 3 || op == 4 || op == 5)
	if !nothing && (d.Kind != 3 || !model.Value(d, e.Text)) || d.Kind == 3 && len(e.Kids) > 0 {
		return api.Change{}, api.ErrValue
	}
	kids, err := readApart(d.Kids, e.Kids, min(op*op, 1))
	if err != api.OK {
		return api.Change{}, err
	}
	stay := map[string]int{}
	for _, kid := range kids {
		stay[kid.Name]++
		if kid.Op == 4 || kid.Op == 5 {
			stay[kid.Name]++
		}
	}
	for _, key := range d.Keys {
		if stay[key] != 1 {
			return api.Change{}, api.ErrKey
		}
	}
	return api.Change{Name: e.Name, Value: e.Text, Op: op, Kids: kids}, api.OK
}

// alike tells whether two trees are alike in all.
func alike(a, b []api.Node) bool {
	return slices.EqualFunc(a, b, func(x, y api.Node) bool {
		return x.Name == y.Name && x.Value == y.Value && alike(x.Kids, y.Kids)
	})
}

// alikeChanges tells whether two lists of changes are alike in all.
func alikeChanges(a, b []api.Change) bool {
	return slices.EqualFunc(a, b, func(x, y api.Change) bool {
		return x.Name == y.Name && x.Value == y.Value && x.Op == y.Op && alikeChanges(x.Kids, y.Kids)
	})
}

// alikeElems tells whether two lists of elements are alike in all.
func alikeElems(a, b []api.Elem) bool {
	return slices.EqualFunc(a, b, func(x, y api.Elem) bool {
		return x.Space == y.Space && x.Name == y.Name && x.Text == y.Text && slices.Equal(x.Attrs, y.Attrs) && alikeElems(x.Kids, y.Kids)
	})
}

// alikeDefs tells whether two schemas are alike in all.
func alikeDefs(a, b []api.Def) bool {
	return slices.EqualFunc(a, b, func(x, y api.Def) bool {
		return x.Name == y.Name && x.Kind == y.Kind && x.Type == y.Type && x.Must == y.Must &&
			slices.Equal(x.Values, y.Values) && slices.Equal(x.Keys, y.Keys) && alikeDefs(x.Kids, y.Kids)
	})
}

// anew answers the same elements in new memory.
func anew(l []api.Elem) []api.Elem {
	l = slices.Clone(l)
	for i := range l {
		l[i].Attrs = slices.Clone(l[i].Attrs)
		l[i].Kids = anew(l[i].Kids)
	}
	return l
}

// changesAnew answers the same changes in new memory.
func changesAnew(l []api.Change) []api.Change {
	l = slices.Clone(l)
	for i := range l {
		l[i].Kids = changesAnew(l[i].Kids)
	}
	return l
}

// text answers a leaf that may have any text.
func text(name string) api.Def {
	return api.Def{Name: name, Kind: api.Leaf}
}

// number answers a leaf that may have a number.
func number(name string) api.Def {
	return api.Def{Name: name, Kind: api.Leaf, Type: api.TypeNumber}
}

// flag answers a leaf that may be true or false.
func flag(name string) api.Def {
	return api.Def{Name: name, Kind: api.Leaf, Type: api.TypeBool}
}

// enum answers a leaf that may have one of these values.
func enum(name string, values ...string) api.Def {
	return api.Def{Name: name, Kind: api.Leaf, Type: api.TypeEnum, Values: values}
}

// box answers a container.
func box(name string, kids ...api.Def) api.Def {
	return api.Def{Name: name, Kind: api.Container, Kids: kids}
}

// list answers a list, whose keys stand apart by blanks.
func list(name, keys string, kids ...api.Def) api.Def {
	return api.Def{Name: name, Kind: api.List, Keys: strings.Fields(keys), Kids: kids}
}

// town is a schema of all kinds, in which keys stand in another order than in
// their list, and behind what is no key.
func town() []api.Def {
	return []api.Def{
		text("name"),
		list("port", "name", number("speed"), text("name"), box("at", enum("side", "left", "right"), box("deep", flag("on")))),
		box("box", enum("color", "red", "green"), list("item", "y x", text("note"), number("x"), text("y"), list("sub", "k", text("k"), text("v")))),
		number("size"),
		box("empty", box("in", text("leaf"))),
	}
}

// elems answers the elements that a text holds.
func elems(t *testing.T, s string) []api.Elem {
	t.Helper()
	e, err := xml.Parse("<c>" + s + "</c>")
	if err != api.OK {
		t.Fatalf("%s is no document's content: %d", s, err)
	}
	return e.Kids
}

// tree answers the tree that a text tells.
func tree(t *testing.T, l []api.Def, s string) []api.Node {
	t.Helper()
	nodes, err := model.Read(l, elems(t, s))
	if err != api.OK {
		t.Fatalf("%s is no tree: %d", s, err)
	}
	return nodes
}

// reads fails the test unless Read answers what it should; it answers that.
func reads(t *testing.T, l []api.Def, elems []api.Elem, op int) ([]api.Change, api.Errno) {
	t.Helper()
	want, err := readApart(l, elems, op)
	if got, e := change.Read(l, elems, op); e != err || !alikeChanges(got, want) {
		t.Fatalf("Read(%v, %v, %d): %v, %d, want %v, %d", l, elems, op, got, e, want, err)
	}
	return want, err
}

// applies fails the test unless Apply answers what it should, and that is a tree
// such as layer 14 reads; it answers that.
func applies(t *testing.T, l []api.Def, nodes []api.Node, changes []api.Change) ([]api.Node, api.Errno) {
	t.Helper()
	before := model.Copy(nodes)
	want, err := applyApart(l, nodes, changes)
	got, e := change.Apply(l, nodes, changes)
	if e != err || !alike(got, want) {
		t.Fatalf("Apply(%v, %v, %v): %v, %d, want %v, %d", l, nodes, changes, got, e, want, err)
	}
	if !alike(nodes, before) {
		t.Fatalf("Apply changed %v to %v", before, nodes)
	}
	if e == api.OK {
		isTree(t, l, got)
	}
	return got, e
}

// isTree fails the test unless nodes are a tree such as layer 14 reads.
func isTree(t *testing.T, l []api.Def, nodes []api.Node) {
	t.Helper()
	again, e := model.Read(l, model.Elems(nodes, ""))
	if e != api.OK || !alike(again, nodes) {
		t.Fatalf("%v is read as %v, %d", nodes, again, e)
	}
}

// edits fails the test unless an edit of a tree makes another one.
func edits(t *testing.T, l []api.Def, from, edit string, op int, to string) {
	t.Helper()
	c, e := reads(t, l, elems(t, edit), op)
	if e != api.OK {
		t.Errorf("Read(%s, %d): %d", edit, op, e)
		return
	}
	got, e := change.Apply(l, tree(t, l, from), c)
	if want := tree(t, l, to); e != api.OK || !alike(got, want) {
		t.Errorf("%s behind %s (%d): %s, %d, want %s", from, edit, op, model.Text(got), e, to)
		return
	}
	applies(t, l, tree(t, l, from), c)
}

// fails fails the test unless an edit of a tree can be read, and not be made.
func fails(t *testing.T, l []api.Def, from, edit string, op int, want api.Errno) {
	t.Helper()
	c, e := reads(t, l, elems(t, edit), op)
	if e != api.OK {
		t.Errorf("Read(%s, %d): %d", edit, op, e)
		return
	}
	got, e := change.Apply(l, tree(t, l, from), c)
	if e != want || got != nil {
		t.Errorf("%s behind %s (%d): %v, %d, want %d", from, edit, op, got, e, want)
		return
	}
	applies(t, l, tree(t, l, from), c)
}

// refuses fails the test unless elements can't be read as changes.
func refuses(t *testing.T, l []api.Def, edit string, op int, want api.Errno) {
	t.Helper()
	if got, e := change.Read(l, elems(t, edit), op); e != want || got != nil {
		t.Errorf("Read(%s, %d): %v, %d, want %d", edit, op, got, e, want)
		return
	}
	reads(t, l, elems(t, edit), op)
}
