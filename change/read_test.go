package change_test

import (
	"strings"
	"testing"

	"tabulary/api"
	"tabulary/change"
)

// op answers an element that has these operations in its attributes.
func op(name string, ops ...string) api.Elem {
	e := api.Elem{Name: name}
	for _, s := range ops {
		e.Attrs = append(e.Attrs, api.Attr{Name: "operation", Value: s})
	}
	return e
}

// all are the numbers of all operations.
var all = []int{api.OpNone, api.OpMerge, api.OpReplace, api.OpCreate, api.OpDelete, api.OpRemove}

// names are their names.
var names = []string{"none", "merge", "replace", "create", "delete", "remove"}

// P15.1: operations by their names, and what is none.
func TestOp(t *testing.T) {
	for i, s := range names {
		if got := change.Op(s); got != i || all[i] != i {
			t.Errorf("Op(%s): %d, want %d", s, got, i)
		}
		for _, other := range []string{s + " ", " " + s, s[:len(s)-1], s + s, strings.ToUpper(s), strings.ToUpper(s[:1]) + s[1:], s + "\x00"} {
			if got := change.Op(other); got != -1 {
				t.Errorf("Op(%q): %d", other, got)
			}
		}
	}
	for _, s := range []string{"", "0", "1", "5", "-1", "x", "set", "update", "None", "\x80", "nonemerge", "merge replace"} {
		if got := change.Op(s); got != -1 {
			t.Errorf("Op(%q): %d", s, got)
		}
	}
}

// P15.1: elements as changes, one by one, with what each of them says.
func TestRead(t *testing.T) {
	l := town()
	edit := elems(t, `<size operation='delete'/><name>a</name><name operation='create'>b</name><size>5</size>
		<port operation='replace'><speed operation='remove'>7</speed><name>p</name><at><side>left</side></at></port>
		<box/><empty operation='remove'><in/></empty>`)
	want := []api.Change{
		{Name: "size", Op: api.OpDelete},
		{Name: "name", Value: "a", Op: api.OpMerge},
		{Name: "name", Value: "b", Op: api.OpCreate},
		{Name: "size", Value: "5", Op: api.OpMerge},
		{Name: "port", Op: api.OpReplace, Kids: []api.Change{
			{Name: "speed", Value: "7", Op: api.OpRemove},
			{Name: "name", Value: "p", Op: api.OpMerge},
			{Name: "at", Op: api.OpMerge, Kids: []api.Change{{Name: "side", Value: "left", Op: api.OpMerge}}},
		}},
		{Name: "box", Op: api.OpMerge},
		{Name: "empty", Op: api.OpRemove, Kids: []api.Change{{Name: "in", Op: api.OpMerge}}},
	}
	if got, e := change.Read(l, edit, api.OpMerge); e != api.OK || !alikeChanges(got, want) {
		t.Errorf("Read: %v, %d, want %v", got, e, want)
	}
	reads(t, l, edit, api.OpMerge)
	for _, none := range [][]api.Elem{nil, {}} {
		for _, defs := range [][]api.Def{l, nil} {
			if got, e := change.Read(defs, none, api.OpMerge); e != api.OK || len(got) > 0 {
				t.Error("of no elements:", got, e)
			}
		}
	}
}

// P15.1: the operation that is handed in is that of the elements that name none,
// and what stands in them has OpNone, if they have, else OpMerge.
func TestReadOperation(t *testing.T) {
	l := []api.Def{box("b", box("c", text("a")), list("l", "k", text("k"), text("a")))}
	inner := func(b, c, a string) []api.Elem {
		e := op("b", strings.Fields(b)...)
		e.Kids = []api.Elem{op("c", strings.Fields(c)...)}
		e.Kids[0].Kids = []api.Elem{op("a", strings.Fields(a)...)}
		return []api.Elem{e}
	}
	below := func(op int) int { return min(op, 1) }
	for _, given := range all {
		for _, b := range append([]string{""}, names[1:]...) {
			for _, c := range append([]string{""}, names[1:]...) {
				for _, a := range append([]string{""}, names[1:]...) {
					got, e := change.Read(l, inner(b, c, a), given)
					if e != api.OK || len(got) != 1 || len(got[0].Kids) != 1 || len(got[0].Kids[0].Kids) != 1 {
						t.Fatal(given, b, c, a, got, e)
					}
					first, second, third := got[0].Op, got[0].Kids[0].Op, got[0].Kids[0].Kids[0].Op
					if b == "" && first != given || b != "" && first != change.Op(b) {
						t.Errorf("%q, handed in %d: %d", b, given, first)
					}
					if c == "" && second != below(first) || c != "" && second != change.Op(c) {
						t.Errorf("%q in %d: %d", c, first, second)
					}
					if a == "" && third != below(second) || a != "" && third != change.Op(a) {
						t.Errorf("%q in %d: %d", a, second, third)
					}
				}
			}
		}
		// what one element says holds for those beside it neither
		got, e := change.Read(l, []api.Elem{op("b", "delete"), op("b"), op("b", "replace"), op("b")}, given)
		if e != api.OK || len(got) != 4 || got[1].Op != given || got[3].Op != given {
			t.Error("beside each other:", got, e)
		}
	}
}

// P15.1: an operation that is handed in and is none is taken as it is, for the
// chapter tells no error of it; what is in such an element is merged.
func TestReadOddOperation(t *testing.T) {
	l := town()
	for _, odd := range []int{-1, 6, 99, -1 << 63, 1<<63 - 1} {
		got, e := change.Read(l, elems(t, "<empty><in/></empty><name>n</name>"), odd)
		if e != api.OK || len(got) != 2 || got[0].Op != odd || got[1].Op != odd || got[0].Kids[0].Op != api.OpMerge {
			t.Error(odd, got, e)
		}
		if nodes, e := change.Apply(l, nil, got); e != api.OK || !alike(nodes, []api.Node{{Name: "name", Value: "n"}}) {
			t.Error(odd, nodes, e)
		}
	}
}

// P15.1: attributes: of several operations the last one counts, and each must be
// one that may be named.
func TestReadAttributes(t *testing.T) {
	l := []api.Def{text("a")}
	for _, c := range []struct {
		e    api.Elem
		want int
	}{
		{op("a", "merge"), 1},
		{op("a", "remove"), 5},
		{op("a", "delete", "merge"), 1},
		{op("a", "merge", "delete"), 4},
		{op("a", "merge", "merge", "replace"), 2},
		{op("a"), 3},
		{op("a", "none"), -1},
		{op("a", ""), -1},
		{op("a", "x"), -1},
		{op("a", "Merge"), -1},
		{op("a", " merge"), -1},
		{op("a", "none", "merge"), -1},
		{op("a", "x", "merge"), -1},
		{op("a", "merge", "none"), -1},
		{op("a", "merge", "x", "merge"), -1},
		{api.Elem{Name: "a", Attrs: []api.Attr{{Name: "Operation", Value: "merge"}}}, -1},
		{api.Elem{Name: "a", Attrs: []api.Attr{{Name: "", Value: "merge"}}}, -1},
		{api.Elem{Name: "a", Attrs: []api.Attr{{Name: "operation", Value: "merge"}, {Name: "x", Value: "1"}}}, -1},
		{api.Elem{Name: "a", Attrs: []api.Attr{{Name: "x", Value: "1"}, {Name: "operation", Value: "merge"}}}, -1},
		{api.Elem{Name: "a", Attrs: []api.Attr{{Name: "xmlns", Value: "u"}}}, -1},
	} {
		got, e := change.Read(l, []api.Elem{c.e}, api.OpCreate)
		switch {
		case c.want < 0 && (e != api.ErrArg || got != nil):
			t.Errorf("%v: %v, %d", c.e, got, e)
		case c.want >= 0 && (e != api.OK || len(got) != 1 || got[0].Op != c.want):
			t.Errorf("%v: %v, %d, want %d", c.e, got, e, c.want)
		}
		reads(t, l, []api.Elem{c.e}, api.OpCreate)
	}
}

// P15.1: namespaces aren't looked at.
func TestReadNamespaces(t *testing.T) {
	l := town()
	edits(t, l, "<name>n</name>", "<p:name xmlns:p='u' p:operation='delete'/><size xmlns='v'>1</size>", api.OpMerge, "<size>1</size>")
	edits(t, l, "<name>n</name>", "<name xmlns:nc='urn:ietf:params:xml:ns:netconf:base:1.0' nc:operation='replace'>m</name>", api.OpNone, "<name>m</name>")
}

// P15.1: a leaf's text must be one of its values; where it is taken away it may
// be empty, too.
func TestReadLeaf(t *testing.T) {
	l := []api.Def{text("text"), number("number"), flag("flag"), enum("enum", "red", "green")}
	for _, c := range []struct {
		name  string
		right []string
		wrong []string // whatever the operation is
	}{
		{"text", []string{"", " ", "a", strings.Repeat("x", 128)}, []string{strings.Repeat("x", 129), "\n", "\x80"}},
		{"number", []string{"0", "-5", "999999999999999999"}, []string{"x", "01", "-0", " ", " 1", "1000000000000000000"}},
		{"flag", []string{"true", "false"}, []string{"True", "1", " "}},
		{"enum", []string{"red", "green"}, []string{"Red", "redgreen", "blue"}},
	} {
		for i, s := range names {
			e := op(c.name)
			if i > 0 {
				e = op(c.name, s)
			}
			for _, e.Text = range append(c.right, c.wrong...) {
				got, err := change.Read(l, []api.Elem{e}, api.OpNone)
				if right := strings.Contains(strings.Join(c.right, "\x00")+"\x00", e.Text+"\x00"); right != (err == api.OK) {
					t.Errorf("%s, %q of %s: %d", s, e.Text, c.name, err)
				} else if right && (len(got) != 1 || got[0].Value != e.Text || got[0].Op != i) || !right && (err != api.ErrValue || got != nil) {
					t.Errorf("%s, %q of %s: %v, %d", s, e.Text, c.name, got, err)
				}
				reads(t, l, []api.Elem{e}, api.OpNone)
			}
			e.Text = ""
			want := api.OK
			if c.name != "text" && i != api.OpDelete && i != api.OpRemove {
				want = api.ErrValue
			}
			if _, err := change.Read(l, []api.Elem{e}, api.OpNone); err != want {
				t.Errorf("%s of %s without a text: %d, want %d", s, c.name, err, want)
			}
			// handed in, it counts as much as named
			if _, err := change.Read(l, []api.Elem{op(c.name)}, i); err != want {
				t.Errorf("%s of %s without a text: %d, want %d", s, c.name, err, want)
			}
			e.Kids = []api.Elem{{Name: c.name}}
			if _, err := change.Read(l, []api.Elem{e}, api.OpNone); err != api.ErrValue {
				t.Errorf("%s of %s with an element: %d", s, c.name, err)
			}
		}
	}
}

// P15.1: what the errors of elements are.
func TestReadErrors(t *testing.T) {
	l := town()
	for want, some := range map[api.Errno][]string{
		api.ErrName:  {"<x/>", "<Name/>", "<speed/>", "<c/>", "<port><x/></port>", "<port><port/></port>", "<port><name>a</name><size>1</size></port>", "<box><box/></box>", "<box><item><z/></item></box>", "<box operation='delete'><z/></box>", "<port operation='remove'><name>a</name><z/></port>", "<empty><leaf/></empty>", "<x operation='x'/>", "<x>y</x>"},
		api.ErrArg:   {"<name x='1'>n</name>", "<size operation='x'/>", "<size operation=''>1</size>", "<box operation='none'/>", "<port operation='DELETE'><name>a</name></port>", "<port><name operation='no'>a</name></port>", "<port><name>a</name><at k='v'/></port>", "<box k='v'>t</box>", "<size k='v'>t</size>", "<name k='v'><x/></name>", "<port k='v'/>", "<box k='v'><x/></box>", "<box operation='delete'><color operation='x'/></box>", "<name xmlns:p='u' p:x='1'/>"},
		api.ErrValue: {"<size/>", "<size>a</size>", "<name><x/></name>", "<name><name/></name>", "<name operation='delete'><x/></name>", "<size operation='remove'>x</size>", "<size operation='delete'><size>1</size></size>", "<port>a</port>", "<box operation='delete'>t</box>", "<box>&#32;</box>", "<empty><in>t</in></empty>", "<port><speed/><name>a</name></port>", "<port operation='delete'><speed/><name>a</name></port>", "<port operation='remove'><name>a</name><at>t</at></port>", "<box><item><x operation='delete'>z</x></item></box>", "<box><item><x/></item></box>"},
		api.ErrKey: {"<port/>", "<port operation='delete'/>", "<port operation='remove'><speed>1</speed></port>", "<port><name>a</name><name>a</name></port>", "<port><name>a</name><name operation='delete'>a</name></port>", "<port><name operation='remove'>a</name><name>a</name></port>", "<port><name operation='delete'>a</name></port>", "<port><name operation='remove'/></port>", "<port operation='delete'><name operation='delete'>a</name></port>", "<port operation='create'><at/></port>",
			"<box><item/></box>", "<box><item><x>1</x></item></box>", "<box><item><y>1</y><note/></item></box>", "<box><item><x>1</x><y/><x>2</x></item></box>", "<box><item><x>1</x><y operation='remove'/></item></box>", "<box operation='delete'><item><x>1</x><y/><sub/></item></box>", "<box><item><sub/><x>1</x><y/></item></box>"},
	} {
		for _, s := range some {
			for _, given := range []int{api.OpMerge, api.OpNone, api.OpReplace, api.OpCreate} {
				refuses(t, l, s, given, want)
				refuses(t, l, "<name>n</name>"+s+"<name>n</name>", given, want)
				refuses(t, l, "<empty><in/>"+"</empty>"+s, given, want)
			}
		}
	}
	if got, e := change.Read(nil, elems(t, "<name/>"), api.OpMerge); e != api.ErrName || got != nil {
		t.Error("without definitions:", got, e)
	}
}

// P15.1: of several errors the one of the first element is told, and of one
// element the one that is named first.
func TestReadFirstError(t *testing.T) {
	l := town()
	wrong := map[string]api.Errno{"<x/>": api.ErrName, "<name x='1'/>": api.ErrArg, "<size/>": api.ErrValue, "<port/>": api.ErrKey}
	inside := map[string]api.Errno{"<z/>": api.ErrName, "<note x='1'/>": api.ErrArg, "<x/>": api.ErrValue, "<sub/>": api.ErrKey}
	for first, want := range wrong {
		for second := range wrong {
			refuses(t, l, first+second, api.OpMerge, want)
			refuses(t, l, "<name/>"+first+second, api.OpMerge, want)
		}
	}
	for first, want := range inside {
		for second := range wrong {
			refuses(t, l, "<box><item>"+first+"</item></box>"+second, api.OpMerge, want)
			refuses(t, l, "<box><item><x>1</x><y/>"+first+"</item></box>"+second, api.OpMerge, want)
		}
		for second := range inside {
			refuses(t, l, "<box><item>"+first+second+"</item></box>", api.OpMerge, want)
		}
	}
	refuses(t, l, "<x k='v'>t</x>", api.OpMerge, api.ErrName)
	refuses(t, l, "<name k='v'><x/></name>", api.OpMerge, api.ErrArg)
	refuses(t, l, "<port><speed>x</speed><z/></port>", api.OpMerge, api.ErrValue)
	refuses(t, l, "<port><z/><speed>x</speed></port>", api.OpMerge, api.ErrName)
	refuses(t, l, "<port><speed k='v'>x</speed></port>", api.OpMerge, api.ErrArg)
	e := api.Elem{Name: "port", Text: "t", Kids: []api.Elem{{Name: "z"}}}
	for _, edit := range [][]api.Elem{{e}, {e, {Name: "x"}}, {{Name: "box", Text: " ", Kids: []api.Elem{{Name: "item"}}}}} {
		if got, err := change.Read(l, edit, api.OpMerge); err != api.ErrValue || got != nil {
			t.Error("a text ahead of the elements:", got, err)
		}
	}
}

// P15.1: keys come once each, in any order and beside anything, and may have any
// operation that leaves them.
func TestReadKeys(t *testing.T) {
	l := town()
	for _, s := range []string{
		"<port><name>a</name></port>",
		"<port><name/></port>",
		"<port><speed>1</speed><speed operation='delete'/><name operation='create'>a</name></port>",
		"<port operation='delete'><name operation='merge'>a</name></port>",
		"<port operation='remove'><name operation='replace'>a</name></port>",
		"<box><item><x>1</x><y/></item><item><y/><x>1</x></item></box>",
		"<box><item><note/><y operation='create'/><note/><x operation='replace'>1</x><sub><k/></sub><sub><k/></sub></item></box>",
		"<port><name>a</name></port><port><name>a</name></port>",
	} {
		for _, given := range all {
			if _, e := reads(t, l, elems(t, s), given); e != api.OK {
				t.Errorf("Read(%s, %d): %d", s, given, e)
			}
		}
	}
	three := []api.Def{list("l", "c a b", text("a"), text("b"), text("c"), text("d"))}
	for _, s := range []string{"a", "b", "c", "a b", "b c", "c a", "a b d", "a a b", "a b c a", "a b c c", "a b b c", "b b c", "d d d"} {
		e := api.Elem{Name: "l"}
		for _, name := range strings.Fields(s) {
			e.Kids = append(e.Kids, api.Elem{Name: name})
		}
		if got, err := change.Read(three, []api.Elem{e}, api.OpMerge); err != api.ErrKey || got != nil {
			t.Errorf("an entry of %s: %v, %d", s, got, err)
		}
	}
	for _, s := range []string{"a b c", "c b a", "d b d a c d"} {
		e := api.Elem{Name: "l"}
		for _, name := range strings.Fields(s) {
			e.Kids = append(e.Kids, api.Elem{Name: name})
		}
		if got, err := change.Read(three, []api.Elem{e}, api.OpMerge); err != api.OK || len(got) != 1 || len(got[0].Kids) != len(e.Kids) {
			t.Errorf("an entry of %s: %v, %d", s, got, err)
		}
	}
}

// P15.1: more elements than a tree may have nodes are read.
func TestReadMany(t *testing.T) {
	l := town()
	edit := make([]api.Elem, 1000)
	for i := range edit {
		edit[i] = api.Elem{Name: "name", Text: "n"}
	}
	if got, e := change.Read(l, edit, api.OpMerge); e != api.OK || len(got) != 1000 {
		t.Error(len(got), e)
	}
}
