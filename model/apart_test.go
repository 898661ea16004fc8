package model_test

import (
	"fmt"
	"regexp"
	"slices"
	"sort"
	"strings"
	"testing"

	"tabulary/api"
	"tabulary/model"
)

// What the package should answer, reckoned apart from it, as the chapter's words
// have it: by expressions, by sets of names, and by one text for each node, which
// tells its place among the others.

var (
	rightName   = regexp.MustCompile(`\A[A-Za-z_][A-Za-z0-9_.\-]{0,31}\z`)
	rightValue  = regexp.MustCompile(`\A[ -~]{0,128}\z`)
	rightNumber = regexp.MustCompile(`\A(?:0|-?[1-9][0-9]{0,17})\z`)
	rightFlag   = regexp.MustCompile(`\A(?:true|false)\z`)
	escapes     = strings.NewReplacer("&", "&amp;", "<", "&lt;", ">", "&gt;", `"`, "&quot;")
)

// rightApart answers what Right should, going through a schema level by level.
func rightApart(l []api.Def) bool {
	lists := [][]api.Def{l}
	for level := 1; len(lists) > 0; level++ {
		var below [][]api.Def
		for _, list := range lists {
			if level > 10 && len(list) > 0 || len(list) > 32 {
				return false
			}
			names := map[string]int{}
			for _, d := range list {
				names[d.Name]++
				if names[d.Name] > 1 || !rightName.MatchString(d.Name) || !rightAlone(d) {
					return false
				}
				below = append(below, d.Kids)
			}
		}
		lists = below
	}
	return true
}

// rightAlone tells whether a definition is right, but for its name and those in it.
func rightAlone(d api.Def) bool {
	switch d.Kind {
	case 1:
		return len(d.Kids) >= 1 && len(d.Keys) == 0
	case 2:
		leaves := map[string]bool{}
		for _, kid := range d.Kids {
			leaves[kid.Name] = kid.Kind == 3
		}
		for _, key := range d.Keys {
			if !leaves[key] {
				return false
			}
			leaves[key] = false
		}
		return len(d.Keys) >= 1 && len(d.Keys) <= 3
	case 3:
		for _, value := range d.Values {
			if !rightName.MatchString(value) {
				return false
			}
		}
		most := map[int]int{0: 0, 1: 0, 2: 0, 3: 32}
		least := map[int]int{3: 1}
		_, known := most[d.Type]
		return known && len(d.Keys)+len(d.Kids) == 0 && len(d.Values) <= most[d.Type] && len(d.Values) >= least[d.Type]
	}
	return false
}

// valueApart answers what Value should.
func valueApart(d api.Def, s string) bool {
	switch d.Type {
	case 1:
		return rightNumber.MatchString(s)
	case 2:
		return rightFlag.MatchString(s)
	case 3:
		return strings.Contains("\x00"+strings.Join(d.Values, "\x00")+"\x00", "\x00"+s+"\x00") && rightName.MatchString(s)
	}
	return rightValue.MatchString(s)
}

// A placed node has a text that tells which one it is, and where it stands.
type placed struct {
	as   string
	node api.Node
}

// readApart answers what Read should.
func readApart(l []api.Def, elems []api.Elem) ([]api.Node, api.Errno) {
	defs := map[string]int{}
	for i, d := range l {
		defs[d.Name] = i + 1
	}
	var left []placed
	seen := map[string]bool{}
	for _, e := range elems {
		if defs[e.Name] == 0 {
			return nil, api.ErrName
		}
		n, err := readAlone(l[defs[e.Name]-1], e)
		if err != api.OK {
			return nil, err
		}
		n.as = fmt.Sprintf("%02d\x00", defs[e.Name]) + n.as
		if seen[n.as] {
			return nil, api.ErrExists
		}
		seen[n.as] = true
		if l[defs[e.Name]-1].Kind != 1 || len(n.node.Kids) > 0 {
			left = append(left, n)
		}
	}
	if len(left) > 256 {
		return nil, api.ErrLen
	}
	sort.Slice(left, func(i, j int) bool { return left[i].as < left[j].as })
	var nodes []api.Node
	for _, n := range left {
		nodes = append(nodes, n.node)
	}
	return nodes, api.OK
}

// readAlone answers an element of a definition, whatever is beside it, and its
// keys' values, each with an end that no value holds.
func readAlone(d api.Def, e api.Elem) (placed, api.Errno) {
	n := api.Node{Name: d.Name, Value: e.Text}
	if d.Kind == 3 {
		if len(e.Kids) > 0 || !valueApart(d, e.Text) {
			return placed{}, api.ErrValue
		}
		return placed{node: n}, api.OK
	}
	if e.Text != "" {
		return placed{}, api.ErrValue
	}
	kids, err := readApart(d.Kids, e.Kids)
	if err != api.OK {
		return placed{}, err
	}
	n.Kids = kids
	values := map[string]string{}
	for _, kid := range kids {
		values[kid.Name] = kid.Value + "\x00"
	}
	as := ""
	for _, key := range d.Keys {
		if values[key] == "" {
			return placed{}, api.ErrKey
		}
		as += values[key]
	}
	return placed{as, n}, api.OK
}

// lacksApart tells whether a tree lacks a leaf that must be there.
func lacksApart(l []api.Def, nodes []api.Node) bool {
	for _, d := range l {
		count := 0
		for _, n := range nodes {
			if n.Name != d.Name {
				continue
			}
			count++
			if d.Kind != 3 && lacksApart(d.Kids, n.Kids) {
				return true
			}
		}
		if d.Kind == 3 && d.Must && count == 0 {
			return true
		}
	}
	return false
}

// textApart answers nodes as they are written.
func textApart(l []api.Node) string {
	s := ""
	for _, n := range l {
		inside := escapes.Replace(n.Value) + textApart(n.Kids)
		if strings.Count(n.Value, " ") == len(n.Value) {
			inside = strings.ReplaceAll(n.Value, " ", "&#32;") + textApart(n.Kids)
		}
		if inside == "" {
			s += "<" + n.Name + "/>"
		} else {
			s += "<" + n.Name + ">" + inside + "</" + n.Name + ">"
		}
	}
	return s
}

// configApart answers what Text should.
func configApart(l []api.Node) string {
	return textApart([]api.Node{{Name: "config", Kids: l}})
}

// alike tells whether two trees are alike in all.
func alike(a, b []api.Node) bool {
	return slices.EqualFunc(a, b, func(x, y api.Node) bool {
		return x.Name == y.Name && x.Value == y.Value && alike(x.Kids, y.Kids)
	})
}

// alikeElems tells whether two lists of elements are alike in all.
func alikeElems(a, b []api.Elem) bool {
	return slices.EqualFunc(a, b, func(x, y api.Elem) bool {
		return x.Space == y.Space && x.Name == y.Name && x.Text == y.Text && slices.Equal(x.Attrs, y.Attrs) && alikeElems(x.Kids, y.Kids)
	})
}

// alikeDefs tells whether two schemas are alike in all.
func alikeDefs(a, b []api.Def) bool {
	return slices.EqualFunc(a, b, func(x, y api.Def) bool {
		return x.Name == y.Name && x.Kind == y.Kind && x.Type == y.Type && x.Must == y.Must &&
			slices.Equal(x.Values, y.Values) && slices.Equal(x.Keys, y.Keys) && alikeDefs(x.Kids, y.Kids)
	})
}

// anew answers the same elements in new memory.
func anew(l []api.Elem) []api.Elem {
	l = slices.Clone(l)
	for i := range l {
		l[i].Attrs = slices.Clone(l[i].Attrs)
		l[i].Kids = anew(l[i].Kids)
	}
	return l
}

// defsAnew answers the same definitions in new memory.
func defsAnew(l []api.Def) []api.Def {
	l = slices.Clone(l)
	for i := range l {
		l[i].Values = slices.Clone(l[i].Values)
		l[i].Keys = slices.Clone(l[i].Keys)
		l[i].Kids = defsAnew(l[i].Kids)
	}
	return l
}

// nodesAnew answers the same nodes in new memory.
func nodesAnew(l []api.Node) []api.Node {
	l = slices.Clone(l)
	for i := range l {
		l[i].Kids = nodesAnew(l[i].Kids)
	}
	return l
}

// text answers a leaf that may have any text.
func text(name string) api.Def {
	return api.Def{Name: name, Kind: api.Leaf}
}

// number answers a leaf that may have a number.
func number(name string) api.Def {
	return api.Def{Name: name, Kind: api.Leaf, Type: api.TypeNumber}
}

// flag answers a leaf that may be true or false.
func flag(name string) api.Def {
	return api.Def{Name: name, Kind: api.Leaf, Type: api.TypeBool}
}

// enum answers a leaf that may have one of these values.
func enum(name string, values ...string) api.Def {
	return api.Def{Name: name, Kind: api.Leaf, Type: api.TypeEnum, Values: values}
}

// must answers a leaf that must be there.
func must(d api.Def) api.Def {
	d.Must = true
	return d
}

// box answers a container.
func box(name string, kids ...api.Def) api.Def {
	return api.Def{Name: name, Kind: api.Container, Kids: kids}
}

// list answers a list, whose keys stand apart by blanks.
func list(name, keys string, kids ...api.Def) api.Def {
	return api.Def{Name: name, Kind: api.List, Keys: strings.Fields(keys), Kids: kids}
}

// value answers a leaf of a tree.
func value(name, s string) api.Node {
	return api.Node{Name: name, Value: s}
}

// node answers another node of a tree.
func node(name string, kids ...api.Node) api.Node {
	return api.Node{Name: name, Kids: kids}
}

// saying answers an element with a text.
func saying(name, s string) api.Elem {
	return api.Elem{Name: name, Text: s}
}

// holding answers an element with others.
func holding(name string, kids ...api.Elem) api.Elem {
	return api.Elem{Name: name, Kids: kids}
}

// parses fails the test unless a text is parsed to a tree.
func parses(t *testing.T, l []api.Def, s string, want ...api.Node) {
	t.Helper()
	if got, e := model.Parse(l, s); e != api.OK || !alike(got, want) {
		t.Errorf("Parse(%.300s): %v, %d, want %v", s, got, e, want)
	}
}

// refuses fails the test unless a text is refused with an error.
func refuses(t *testing.T, l []api.Def, s string, want api.Errno) {
	t.Helper()
	if got, e := model.Parse(l, s); e != want || len(got) > 0 {
		t.Errorf("Parse(%.300s): %v, %d, want %d", s, got, e, want)
	}
}

// agrees fails the test unless Read answers what it should; it answers that.
func agrees(t *testing.T, l []api.Def, elems []api.Elem) ([]api.Node, api.Errno) {
	t.Helper()
	want, e := readApart(l, elems)
	if got, f := model.Read(l, elems); e != f || !alike(got, want) {
		t.Fatalf("Read(%v, %v): %v, %d, want %v, %d", l, elems, got, f, want, e)
	}
	return want, e
}
