package change_test

import (
	"strconv"
	"strings"
	"testing"

	"tabulary/api"
	"tabulary/change"
)

// full is a tree of town, in which there is something of all.
const full = "<name>n</name>" +
	"<port><speed>1</speed><name>a</name><at><side>left</side><deep><on>true</on></deep></at></port>" +
	"<port><name>b</name></port>" +
	"<box><color>red</color><item><note>o</note><x>1</x><y>2</y><sub><k>k</k><v>v</v></sub></item></box>" +
	"<size>7</size>"

// P15.1: changes of a leaf.
func TestLeaf(t *testing.T) {
	l := town()
	for op, s := range names[1:] {
		with := "<name operation='" + s + "'>new</name>"
		without := "<name operation='" + s + "'/>"
		switch op + 1 {
		case api.OpMerge, api.OpReplace:
			edits(t, l, "", with, api.OpNone, "<name>new</name>")
			edits(t, l, "<name>old</name>", with, api.OpNone, "<name>new</name>")
			edits(t, l, "<name>new</name><size>1</size>", with, api.OpNone, "<name>new</name><size>1</size>")
			edits(t, l, "<name>old</name>", without, api.OpNone, "<name/>")
			edits(t, l, "", without, api.OpNone, "<name/>")
		case api.OpCreate:
			edits(t, l, "", with, api.OpNone, "<name>new</name>")
			edits(t, l, "<size>1</size>", with, api.OpNone, "<name>new</name><size>1</size>")
			fails(t, l, "<name>old</name>", with, api.OpNone, api.ErrExists)
			fails(t, l, "<name>new</name>", with, api.OpNone, api.ErrExists)
			fails(t, l, "<name/>", with, api.OpNone, api.ErrExists)
		case api.OpDelete:
			fails(t, l, "", with, api.OpNone, api.ErrGone)
			fails(t, l, "<size>1</size>", without, api.OpNone, api.ErrGone)
		case api.OpRemove:
			edits(t, l, "", with, api.OpNone, "")
			edits(t, l, "<size>1</size>", without, api.OpNone, "<size>1</size>")
		}
		if op+1 == api.OpDelete || op+1 == api.OpRemove {
			// whatever value it has, and whichever is named
			for _, from := range []string{"<name>old</name>", "<name>new</name>", "<name/>"} {
				edits(t, l, from, with, api.OpNone, "")
				edits(t, l, from+"<size>1</size>", without, api.OpNone, "<size>1</size>")
			}
		}
	}
	// none asks whether it is there, and leaves its value
	edits(t, l, "<name>old</name>", "<name>new</name>", api.OpNone, "<name>old</name>")
	edits(t, l, "<name>old</name>", "<name/>", api.OpNone, "<name>old</name>")
	fails(t, l, "", "<name>new</name>", api.OpNone, api.ErrGone)
	fails(t, l, "<size>1</size>", "<name>new</name>", api.OpNone, api.ErrGone)
}

// P15.1: changes of a container.
func TestContainer(t *testing.T) {
	l := town()
	for _, c := range []struct{ from, edit, to string }{
		{"", "<box/>", ""},
		{"", "<empty><in/></empty>", ""},
		{"", "<empty><in><leaf>x</leaf></in></empty>", "<empty><in><leaf>x</leaf></in></empty>"},
		{full, "<box/>", full},
		{full, "<empty><in/></empty>", full},
		{"<box><color>red</color></box>", "<box><item><x>1</x><y/></item></box>", "<box><color>red</color><item><x>1</x><y/></item></box>"},
		{"<box><color>red</color></box>", "<box><color>green</color></box>", "<box><color>green</color></box>"},
		{"<box><color>red</color></box>", "<box operation='replace'><item><x>1</x><y/></item></box>", "<box><item><x>1</x><y/></item></box>"},
		{"<box><color>red</color></box>", "<box operation='replace'/>", ""},
		{"<empty><in><leaf>x</leaf></in></empty>", "<empty operation='replace'><in/></empty>", ""},
		{"<empty><in><leaf>x</leaf></in></empty>", "<empty><in operation='replace'/></empty>", ""},
		{"", "<box operation='replace'><color>red</color></box>", "<box><color>red</color></box>"},
		{"", "<box operation='replace'/>", ""},
		{"", "<box operation='create'><color>red</color></box>", "<box><color>red</color></box>"},
		{"", "<box operation='create'/>", ""},
		{"", "<empty operation='create'><in/></empty>", ""},
		{"<size>1</size><box><color>red</color></box>", "<box operation='delete'/>", "<size>1</size>"},
		{"<size>1</size><box><color>red</color></box>", "<box operation='remove'/>", "<size>1</size>"},
		{"<size>1</size>", "<box operation='remove'/>", "<size>1</size>"},
		{"", "<empty operation='remove'/>", ""},
		// what is in one that is taken away is not made
		{"<box><color>red</color></box>", "<box operation='delete'><item operation='delete'><x>1</x><y/></item><color operation='create'>red</color></box>", ""},
		{"", "<box operation='remove'><item operation='delete'><x>1</x><y/></item></box>", ""},
		// a container goes with the last that was in it
		{"<box><color>red</color></box>", "<box><color operation='delete'/></box>", ""},
		{"<empty><in><leaf>x</leaf></in></empty>", "<empty><in><leaf operation='remove'/></in></empty>", ""},
		{"<empty><in><leaf>x</leaf></in></empty>", "<empty><in operation='delete'/></empty>", ""},
		{"<box><color>red</color><item><x>1</x><y/></item></box>", "<box><item operation='delete'><x>1</x><y/></item></box>", "<box><color>red</color></box>"},
		// and may come back behind that
		{"<box><color>red</color></box>", "<box><color operation='delete'/><color operation='create'>green</color></box>", "<box><color>green</color></box>"},
		{"<box><color>red</color></box>", "<box><color operation='delete'/></box><box operation='create'><color>green</color></box>", "<box><color>green</color></box>"},
		{"<box><color>red</color></box>", "<box operation='delete'/><box operation='create'><color>green</color></box>", "<box><color>green</color></box>"},
		{"<box><color>red</color></box>", "<box operation='replace'><color operation='create'>green</color></box>", "<box><color>green</color></box>"},
		{"<box><color>red</color></box>", "<box operation='replace'><color operation='remove'/></box>", ""},
	} {
		edits(t, l, c.from, c.edit, api.OpMerge, c.to)
	}
	for want, some := range map[api.Errno][][2]string{
		api.ErrExists: {
			{"<box><color>red</color></box>", "<box operation='create'/>"},
			{"<box><color>red</color></box>", "<box operation='create'><item><x>1</x><y/></item></box>"},
			{"<box><color>red</color></box>", "<box><color operation='create'>red</color></box>"},
			{"", "<box operation='create'><color>red</color></box><box operation='create'/>"},
			{"", "<box operation='create'><color>red</color><color operation='create'>red</color></box>"},
		},
		api.ErrGone: {
			{"", "<box operation='delete'/>"},
			{"<size>1</size>", "<box operation='delete'><color>red</color></box>"},
			{"", "<box><color operation='delete'/></box>"},
			{"<box><color>red</color></box>", "<box operation='replace'><color operation='delete'/></box>"},
			{"", "<box operation='create'><color operation='delete'/></box>"},
			{"<box><color>red</color></box>", "<box operation='delete'/><box operation='delete'/>"},
			{"<box><color>red</color></box>", "<box><color operation='delete'/></box><box operation='delete'/>"},
			{"", "<box operation='create'/><box operation='delete'/>"},
			{"<empty><in><leaf>x</leaf></in></empty>", "<empty><in operation='replace'/></empty><empty operation='delete'/>"},
		},
	} {
		for _, c := range some {
			fails(t, l, c[0], c[1], api.OpMerge, want)
		}
	}
}

// P15.1: with OpNone a container may be there or not, and what is in it is
// changed just where it says so.
func TestContainerNone(t *testing.T) {
	l := town()
	for _, c := range []struct{ from, edit, to string }{
		{"", "<box/>", ""},
		{"", "<empty><in/></empty>", ""},
		{full, "<box/><empty><in/></empty>", full},
		{full, "<box><color>green</color></box>", full},
		{"", "<empty><in><leaf operation='remove'/></in></empty>", ""},
		{"", "<empty><in><leaf operation='create'>x</leaf></in></empty>", "<empty><in><leaf>x</leaf></in></empty>"},
		{"", "<empty><in operation='merge'><leaf>x</leaf></in></empty>", "<empty><in><leaf>x</leaf></in></empty>"},
		{"<box><color>red</color></box>", "<box><color operation='replace'>green</color></box>", "<box><color>green</color></box>"},
		{"<box><color>red</color></box>", "<box><color operation='delete'/></box>", ""},
		{"<box><color>red</color></box>", "<box><item operation='merge'><x>1</x><y/></item></box>", "<box><color>red</color><item><x>1</x><y/></item></box>"},
	} {
		edits(t, l, c.from, c.edit, api.OpNone, c.to)
	}
	fails(t, l, "", "<box><color>red</color></box>", api.OpNone, api.ErrGone)
	fails(t, l, "<box><color>red</color></box>", "<box><item><x>1</x><y/></item></box>", api.OpNone, api.ErrGone)
	fails(t, l, "", "<empty><in><leaf/></in></empty>", api.OpNone, api.ErrGone)
}

// P15.1: changes of a list's entries.
func TestEntry(t *testing.T) {
	l := town()
	const a, b = "<port><speed>1</speed><name>a</name></port>", "<port><speed>2</speed><name>b</name></port>"
	for _, c := range []struct{ from, edit, to string }{
		{"", "<port><name>a</name></port>", "<port><name>a</name></port>"},
		{"", "<port><name/></port>", "<port><name/></port>"},
		{a, "<port><name/></port>", "<port><name/></port>" + a},
		{b, a, a + b},
		{a, b, a + b},
		{a, a, a},
		{a, "<port><name>a</name></port>", a},
		{a, "<port><name>a</name><speed>5</speed></port>", "<port><speed>5</speed><name>a</name></port>"},
		{a + b, "<port><name>b</name><at><side>left</side></at></port>", a + "<port><speed>2</speed><name>b</name><at><side>left</side></at></port>"},
		{a + b, "<port><speed operation='delete'/><name>a</name></port>", "<port><name>a</name></port>" + b},
		// replaced, an entry keeps its keys alone
		{a + b, "<port operation='replace'><name>a</name></port>", "<port><name>a</name></port>" + b},
		{a + b, "<port operation='replace'><name>b</name><at><side>left</side></at></port>", a + "<port><name>b</name><at><side>left</side></at></port>"},
		{a, "<port operation='replace'><name>b</name></port>", a + "<port><name>b</name></port>"},
		{"", "<port operation='replace'><name>b</name></port>", "<port><name>b</name></port>"},
		{a, "<port operation='replace'><name>a</name><speed operation='remove'/></port>", "<port><name>a</name></port>"},
		{a, "<port operation='replace'><name>a</name><speed operation='create'>3</speed></port>", "<port><speed>3</speed><name>a</name></port>"},
		{"", "<port operation='create'><name>a</name><speed>1</speed></port>", a},
		{b, "<port operation='create'><name>a</name><speed>1</speed></port>", a + b},
		{a + b, "<port operation='delete'><name>a</name></port>", b},
		{a + b, "<port operation='remove'><name>b</name></port>", a},
		{a + b, "<port operation='remove'><name>c</name></port>", a + b},
		{a, "<port operation='delete'><name>a</name><speed>9</speed></port>", ""},
		{"", "<port operation='remove'><name>a</name></port>", ""},
		// what is in one that is taken away is not made
		{a, "<port operation='delete'><name>a</name><speed operation='create'>1</speed><at operation='delete'/></port>", ""},
		{"", "<port operation='remove'><name>a</name><speed operation='delete'/></port>", ""},
		// its keys are no changes, whatever their operation is
		{a, "<port><name operation='create'>a</name></port>", a},
		{a, "<port operation='delete'><name operation='create'>a</name></port>", ""},
		{"", "<port><name operation='replace'>a</name><speed>1</speed></port>", a},
		// an entry's containers go with what is in them, it doesn't
		{a, "<port><name>a</name><at/></port>", a},
		{"", "<port><name>a</name><at><deep/></at></port>", "<port><name>a</name></port>"},
		{"<port><name>a</name><at><side>left</side></at></port>", "<port><name>a</name><at><side operation='delete'/></at></port>", "<port><name>a</name></port>"},
		{"<port><name>a</name><at><side>left</side></at></port>", "<port><name>a</name><at operation='delete'/></port>", "<port><name>a</name></port>"},
		// one behind the other
		{a, "<port operation='delete'><name>a</name></port><port operation='create'><name>a</name></port>", "<port><name>a</name></port>"},
		{"", a + "<port><name>a</name><speed>3</speed></port>", "<port><speed>3</speed><name>a</name></port>"},
		{"", "<port><name>a</name><speed>3</speed><speed>4</speed><speed operation='replace'>5</speed></port>", "<port><speed>5</speed><name>a</name></port>"},
		{"", a + b + "<port operation='delete'><name>a</name></port>", b},
	} {
		edits(t, l, c.from, c.edit, api.OpMerge, c.to)
	}
	for want, some := range map[api.Errno][][2]string{
		api.ErrExists: {
			{a, "<port operation='create'><name>a</name></port>"},
			{a + b, "<port operation='create'><name>b</name><speed>3</speed></port>"},
			{a, "<port><name>a</name><speed operation='create'>1</speed></port>"},
			{"", a + "<port operation='create'><name>a</name></port>"},
		},
		api.ErrGone: {
			{"", "<port operation='delete'><name>a</name></port>"},
			{a, "<port operation='delete'><name>b</name></port>"},
			{a, "<port operation='delete'><name>A</name></port>"},
			{a, "<port><name>b</name><speed operation='delete'/></port>"},
			{a, "<port operation='replace'><name>a</name><speed operation='delete'/></port>"},
			{a, "<port><name>a</name><at operation='delete'/></port>"},
			{a, "<port operation='delete'><name>a</name></port><port operation='delete'><name>a</name></port>"},
		},
	} {
		for _, c := range some {
			fails(t, l, c[0], c[1], api.OpMerge, want)
		}
	}
}

// P15.1: with OpNone an entry must be there, and what is in it is changed just
// where it says so.
func TestEntryNone(t *testing.T) {
	l := town()
	const a, b = "<port><speed>1</speed><name>a</name></port>", "<port><speed>2</speed><name>b</name></port>"
	for _, c := range []struct{ from, edit, to string }{
		{a, "<port><name>a</name></port>", a},
		{a + b, "<port><name>b</name><speed>9</speed></port>", a + b},
		{a + b, "<port><name>b</name><at/></port>", a + b},
		{a + b, "<port><name>b</name><speed operation='merge'>9</speed></port>", a + "<port><speed>9</speed><name>b</name></port>"},
		{a + b, "<port><speed operation='delete'/><name>a</name></port>", "<port><name>a</name></port>" + b},
		{a + b, "<port><name>a</name><at><side operation='create'>right</side></at></port>", "<port><speed>1</speed><name>a</name><at><side>right</side></at></port>" + b},
		{a, "<port operation='merge'><name>c</name></port><port><name>c</name></port>", a + "<port><name>c</name></port>"},
		{full, "<box><item><x>1</x><y>2</y><sub><k>k</k></sub></item></box>", full},
	} {
		edits(t, l, c.from, c.edit, api.OpNone, c.to)
	}
	for _, c := range [][2]string{
		{"", "<port><name>a</name></port>"},
		{a, "<port><name>b</name></port>"},
		{a, "<port><name>b</name><speed operation='merge'>1</speed></port>"},
		{a, "<port operation='delete'><name>a</name></port><port><name>a</name></port>"},
		{"<port><name>a</name></port>", "<port><name>a</name><speed>1</speed></port>"},
		{full, "<box><item><x>1</x><y>3</y></item></box>"},
		{full, "<box><item><x>2</x><y>2</y></item></box>"},
		{full, "<box><item><x>2</x><y>1</y></item></box>"},
		{full, "<box><item><x>1</x><y>2</y><sub><k>j</k></sub></item></box>"},
		{full, "<box/><port><name>c</name></port>"},
	} {
		fails(t, l, c[0], c[1], api.OpNone, api.ErrGone)
	}
}

// P15.1: an entry is known by all its keys, in whatever order they come.
func TestEntryByAllKeys(t *testing.T) {
	l := []api.Def{list("l", "c a", text("a"), text("b"), text("c"), text("d"))}
	one := func(a, b, c string) string {
		return "<l><a>" + a + "</a><b>" + b + "</b><c>" + c + "</c></l>"
	}
	from := one("1", "x", "2") + one("2", "x", "1") + one("1", "y", "1")
	for _, s := range []string{"<l><a>1</a><c>2</c>", "<l><c>2</c><a>1</a>"} {
		edits(t, l, from, s+"<b>z</b></l>", api.OpMerge, one("2", "x", "1")+one("1", "y", "1")+one("1", "z", "2"))
	}
	edits(t, l, from, "<l operation='delete'><c>1</c><a>2</a></l>", api.OpMerge, one("1", "y", "1")+one("1", "x", "2"))
	edits(t, l, from, "<l><c>2</c><a>2</a></l>", api.OpMerge, from+"<l><a>2</a><c>2</c></l>")
	edits(t, l, from, "<l><c>12</c><a/></l>", api.OpMerge, from+"<l><a/><c>12</c></l>")
	edits(t, l, from, "<l operation='create'><a/><c/></l>", api.OpMerge, from+"<l><a/><c/></l>")
	fails(t, l, from, "<l operation='delete'><c>2</c><a>2</a></l>", api.OpMerge, api.ErrGone)
	fails(t, l, from, "<l operation='create'><b>n</b><c>1</c><a>1</a></l>", api.OpMerge, api.ErrExists)
	// b isn't a key
	edits(t, l, from, "<l operation='remove'><b>x</b><c>3</c><a>1</a></l>", api.OpMerge, from)
}

// P15.2: an entry that begins with its keys alone has them where its definition
// has them, whatever the order of Keys is, as layer 14 reads it.
func TestKeysAsDefined(t *testing.T) {
	l := []api.Def{list("l", "c a b", text("a"), text("b"), text("c"), text("d"))}
	want := []api.Node{{Name: "l", Kids: []api.Node{{Name: "a", Value: "1"}, {Name: "b", Value: "2"}, {Name: "c", Value: "3"}}}}
	for _, s := range []string{"<a>1</a><b>2</b><c>3</c>", "<c>3</c><a>1</a><b>2</b>", "<b>2</b><c>3</c><a>1</a>"} {
		for _, op := range []int{api.OpMerge, api.OpReplace, api.OpCreate} {
			c, _ := reads(t, l, elems(t, "<l>"+s+"</l>"), op)
			for _, from := range [][]api.Node{nil, tree(t, l, "<l><a>1</a><b>2</b><c>3</c></l>")} {
				got, e := change.Apply(l, from, c)
				if op == api.OpCreate && from != nil {
					continue
				}
				if e != api.OK || !alike(got, want) {
					t.Errorf("%s (%d): %v, %d", s, op, got, e)
				}
				isTree(t, l, got)
			}
		}
	}
}

// P15.1: changes are made one behind the other, in order, and all that comes of
// them is in order.
func TestChangesInOrder(t *testing.T) {
	l := town()
	for _, c := range []struct{ from, edit, to string }{
		{"", "<size>1</size><name>a</name>", "<name>a</name><size>1</size>"},
		{"", "<name>a</name><name>b</name>", "<name>b</name>"},
		{"", "<name operation='create'>a</name><name operation='delete'/>", ""},
		{"<name>a</name>", "<name operation='delete'/><name operation='create'>b</name>", "<name>b</name>"},
		{"<name>a</name>", "<name operation='delete'/><name operation='remove'/><size>1</size>", "<size>1</size>"},
		{full, "", full},
		{full, "<name operation='remove'/><port operation='remove'><name>a</name></port><port operation='remove'><name>b</name></port><box operation='remove'/><size operation='remove'/>", ""},
		{"<size>1</size>", "<port><name>b</name></port><empty><in><leaf/></in></empty><port><name>a</name></port><box><item><y>2</y><x>1</x></item><color>red</color><item><x>2</x><y>1</y></item></box>",
			"<port><name>a</name></port><port><name>b</name></port><box><color>red</color><item><x>2</x><y>1</y></item><item><x>1</x><y>2</y></item></box><size>1</size><empty><in><leaf/></in></empty>"},
		{"<port><name>a</name></port>", "<port><name>ab</name></port><port><name>B</name></port><port><name/></port><port><name>10</name></port><port><name>9</name></port>",
			"<port><name/></port><port><name>10</name></port><port><name>9</name></port><port><name>B</name></port><port><name>a</name></port><port><name>ab</name></port>"},
	} {
		edits(t, l, c.from, c.edit, api.OpMerge, c.to)
	}
	l = []api.Def{text("c"), text("a"), text("b")}
	edits(t, l, "<a/>", "<b/><c/>", api.OpMerge, "<c/><a/><b/>")
}

// P15.1: the first change's error is told, and nothing comes of the others.
func TestFirstError(t *testing.T) {
	l := town()
	const from = "<name>n</name>"
	fails(t, l, from, "<size operation='delete'/><name operation='create'/>", api.OpMerge, api.ErrGone)
	fails(t, l, from, "<name operation='create'/><size operation='delete'/>", api.OpMerge, api.ErrExists)
	fails(t, l, from, "<size>1</size><name operation='create'/><size operation='delete'/>", api.OpMerge, api.ErrExists)
	fails(t, l, from, "<box><color>red</color><color operation='create'>red</color></box><size operation='delete'/>", api.OpMerge, api.ErrExists)
	fails(t, l, from, "<box><color operation='delete'/><color operation='create'>red</color></box><name operation='create'/>", api.OpMerge, api.ErrGone)
	// an entry's own error stands ahead of those of what is in it
	fails(t, l, "<port><name>a</name></port>", "<port operation='create'><name>a</name><speed operation='delete'/></port>", api.OpMerge, api.ErrExists)
	fails(t, l, "", "<port><name>a</name><speed operation='create'>1</speed><speed operation='create'>1</speed></port>", api.OpNone, api.ErrGone)
}

// P15.1: what has no definition.
func TestApplyName(t *testing.T) {
	l := town()
	kid := api.Change{Name: "zip", Op: api.OpMerge}
	for i, c := range []api.Change{
		kid,
		{Name: "zip", Op: api.OpRemove},
		{Name: "zip", Op: api.OpDelete},
		{Name: "zip"},
		{Name: ""},
		{Name: "speed", Value: "1", Op: api.OpMerge},
		{Name: "box", Op: api.OpMerge, Kids: []api.Change{kid}},
		{Name: "box", Kids: []api.Change{kid}},
		{Name: "port", Op: api.OpCreate, Kids: []api.Change{{Name: "name", Value: "a", Op: api.OpMerge}, kid}},
	} {
		for _, some := range [][]api.Change{{c}, {{Name: "name", Value: "n", Op: api.OpMerge}, c}, {c, {Name: "size", Op: api.OpDelete}}} {
			if got, e := change.Apply(l, nil, some); e != api.ErrName || got != nil {
				t.Errorf("%d, %v: %v, %d", i, some, got, e)
			}
			applies(t, l, nil, some)
		}
		if got, e := change.Apply(l, nil, []api.Change{{Name: "size", Op: api.OpDelete}, c}); e != api.ErrGone || got != nil {
			t.Errorf("%d behind another error: %v, %d", i, got, e)
		}
		if got, e := change.Apply(nil, nil, []api.Change{c}); e != api.ErrName || got != nil {
			t.Errorf("%d without definitions: %v, %d", i, got, e)
		}
	}
	// what is in one that is taken away, or in a leaf, isn't made
	for _, c := range []api.Change{{Name: "box", Op: api.OpRemove, Kids: []api.Change{kid}}, {Name: "size", Op: api.OpRemove, Kids: []api.Change{kid}}} {
		if got, e := change.Apply(l, tree(t, l, "<box><color>red</color></box>"), []api.Change{c}); e != api.OK {
			t.Errorf("%v: %v, %d", c, got, e)
		}
	}
}

// ports answers entries of town's list port with these numbers as names.
func ports(from, to int) string {
	var b strings.Builder
	for i := from; i < to; i++ {
		b.WriteString("<port><name>" + strconv.Itoa(1000+i) + "</name></port>")
	}
	return b.String()
}

// P15.1: more than 256 nodes beside each other are an error behind each change,
// even if a later one takes some away.
func TestMost(t *testing.T) {
	l := town()
	most := ports(0, 256)
	const gone, more = "<port operation='delete'><name>1007</name></port>", "<port operation='create'><name>a</name></port>"
	edits(t, l, most, "", api.OpMerge, most)
	edits(t, l, ports(0, 255), ports(255, 256), api.OpMerge, most)
	edits(t, l, ports(0, 255), "<name/>", api.OpMerge, "<name/>"+ports(0, 255))
	edits(t, l, most, "<port><name>1007</name><speed>1</speed></port>"+ports(3, 200), api.OpMerge, strings.Replace(most, "<port><name>1007", "<port><speed>1</speed><name>1007", 1))
	edits(t, l, most, gone+more, api.OpMerge, ports(0, 7)+ports(8, 256)+"<port><name>a</name></port>")
	edits(t, l, most, "<empty><in/></empty><box/>", api.OpMerge, most)
	edits(t, l, "", most, api.OpCreate, most)
	for _, edit := range []string{more, "<name/>", "<size>1</size>", "<box><color>red</color></box>", ports(256, 257), more + gone, more + "<size operation='delete'/>", gone + more + "<name/>", "<name/><name operation='delete'/>"} {
		fails(t, l, most, edit, api.OpMerge, api.ErrLen)
	}
	fails(t, l, "<name/>"+ports(0, 255), more, api.OpMerge, api.ErrLen)
	fails(t, l, most, "<size operation='delete'/>"+more, api.OpMerge, api.ErrGone)
	fails(t, l, "<name/>"+ports(0, 255), "<name operation='create'/>"+more, api.OpMerge, api.ErrExists)
}

// P15.1: the same within a container and within an entry, whose keys count, too.
func TestMostInside(t *testing.T) {
	l := []api.Def{box("b", text("a"), list("port", "name", number("speed"), text("name"))), list("l", "k", text("a"), text("k"), list("port", "name", number("speed"), text("name")))}
	most, fewer := ports(0, 256), ports(0, 255)
	edits(t, l, "", "<b>"+fewer+"</b><b><a/></b>", api.OpMerge, "<b><a/>"+fewer+"</b>")
	edits(t, l, "<b>"+fewer+"</b>", "<b><a/></b>", api.OpMerge, "<b><a/>"+fewer+"</b>")
	edits(t, l, "<b>"+most+"</b>", "<b operation='replace'><a/></b>", api.OpMerge, "<b><a/></b>")
	edits(t, l, "<b>"+most+"</b>", "<b><port operation='delete'><name>1000</name></port><a/></b>", api.OpMerge, "<b><a/>"+ports(1, 256)+"</b>")
	fails(t, l, "<b>"+most+"</b>", "<b><a/></b>", api.OpMerge, api.ErrLen)
	fails(t, l, "<b>"+most+"</b>", "<b><a/><a operation='delete'/></b>", api.OpMerge, api.ErrLen)
	fails(t, l, "<b>"+most+"</b>", "<b><a/><a operation='create'/></b>", api.OpMerge, api.ErrLen)
	edits(t, l, "", "<l><k/></l>", api.OpMerge, "<l><k/></l>")
	edits(t, l, "<l><k/></l>", "<l><k/><port><name>1</name></port></l>", api.OpMerge, "<l><k/><port><name>1</name></port></l>")
	edits(t, l, "<l><k/>"+ports(0, 254)+"</l>", "<l><a/><k/></l>", api.OpMerge, "<l><a/><k/>"+ports(0, 254)+"</l>")
	edits(t, l, "<l><k/>"+fewer+"</l>", "<l operation='replace'><a/><k/></l>", api.OpMerge, "<l><a/><k/></l>")
	fails(t, l, "<l><k/>"+fewer+"</l>", "<l><a/><k/></l>", api.OpMerge, api.ErrLen)
	fails(t, l, "<l><k/>"+fewer+"</l>", "<l><k/>"+ports(255, 256)+"</l>", api.OpMerge, api.ErrLen)
	fails(t, l, "<b>"+most+"</b>", "<l><k/></l><b><a/></b>", api.OpMerge, api.ErrLen)
	// a whole list beside another one isn't counted with it
	edits(t, l, "<b>"+most+"</b>", "<l><k/></l>", api.OpMerge, "<b>"+most+"</b><l><k/></l>")
}

// P15.1: edits as deep as a schema may be.
func TestDeepest(t *testing.T) {
	d, inner, outer, taken := text("a"), "<a>1</a>", "<a>2</a>", "<a operation='delete'/>"
	for i := range 9 {
		name := "n" + strconv.Itoa(i)
		key := ""
		if i%2 == 0 {
			d = box(name, d)
		} else {
			d, key = list(name, "k", text("k"), d), "<k>x</k>"
		}
		wrap := func(s string) string { return "<" + name + ">" + key + s + "</" + name + ">" }
		inner, outer, taken = wrap(inner), wrap(outer), wrap(taken)
	}
	l := []api.Def{d}
	for _, op := range []int{api.OpMerge, api.OpReplace} {
		edits(t, l, "", inner, op, inner)
		edits(t, l, inner, outer, op, outer)
	}
	edits(t, l, "", inner, api.OpCreate, inner)
	edits(t, l, inner, taken, api.OpMerge, strings.Replace(inner, "<n0><a>1</a></n0>", "", 1))
	edits(t, l, inner, taken, api.OpNone, strings.Replace(inner, "<n0><a>1</a></n0>", "", 1))
	fails(t, l, inner, inner, api.OpCreate, api.ErrExists)
	fails(t, l, "", taken, api.OpMerge, api.ErrGone)
	fails(t, l, "", inner, api.OpNone, api.ErrGone)
	edits(t, l, inner, inner, api.OpRemove, "")
}
