package model_test

import (
	"math/rand"
	"slices"
	"strconv"
	"strings"
	"testing"

	"tabulary/api"
	"tabulary/model"
	"tabulary/xml"
)

// A maker makes schemas, and what is written by them.
type maker struct {
	*rand.Rand
	slips int // one in so many elements is wrong; 0: none
	left  int // how many more elements there may be
}

// one answers one of these.
func (m *maker) one(l ...string) string {
	return l[m.Intn(len(l))]
}

// name answers a name, of few signs that it may hold.
func (m *maker) name() string {
	s := m.one("a", "b", "_", "Z", "x", "y")
	for range m.Intn(4) {
		s += m.one("a", "b", "1", "-", ".", "_", "Z")
	}
	return s
}

// leaf answers a leaf of any type.
func (m *maker) leaf(name string) api.Def {
	d := api.Def{Name: name, Kind: api.Leaf, Type: m.Intn(4), Must: m.Intn(8) == 0}
	if d.Type == api.TypeEnum {
		for range 1 + m.Intn(4) {
			d.Values = append(d.Values, m.name())
		}
	}
	return d
}

// schema answers a schema of so many levels at most.
func (m *maker) schema(levels, most int) []api.Def {
	var l []api.Def
	for range 1 + m.Intn(most) {
		name := m.name()
		if model.Find(l, name) >= 0 {
			continue
		}
		d := m.leaf(name)
		if levels > 1 && m.Intn(2) == 0 {
			d = api.Def{Name: name, Kind: 1 + m.Intn(2), Type: m.Intn(9), Must: m.Intn(2) == 0, Kids: m.schema(levels-1, most)}
		}
		if d.Kind == api.List {
			d.Keys = m.keys(&d)
		}
		l = append(l, d)
	}
	return l
}

// keys answers the names of some leaves of a list, which has one then.
func (m *maker) keys(d *api.Def) []string {
	var l []string
	for _, i := range m.Perm(len(d.Kids)) {
		if d.Kids[i].Kind == api.Leaf && len(l) < 1+m.Intn(3) {
			l = append(l, d.Kids[i].Name)
		}
	}
	if len(l) == 0 {
		d.Kids[0] = m.leaf(d.Kids[0].Name)
		l = []string{d.Kids[0].Name}
	}
	return l
}

// value answers a value of a leaf.
func (m *maker) value(d api.Def) string {
	switch d.Type {
	case api.TypeNumber:
		return m.one("0", "1", "2", "-1", "10", "999999999999999999", strconv.Itoa(m.Intn(1000)-500))
	case api.TypeBool:
		return m.one("true", "false")
	case api.TypeEnum:
		return m.one(d.Values...)
	}
	return m.one("", " ", "a", "b", "ab", "  ", "<&>", "\"'", "]]>", strings.Repeat(m.one("x", " ", "&"), m.Intn(129)), strings.Repeat("&<>", m.Intn(43)), "n"+strconv.Itoa(m.Intn(500)))
}

// elems answers elements of a schema in any order; of lists there are up to most.
func (m *maker) elems(l []api.Def, most int) []api.Elem {
	var all []api.Elem
	for _, d := range l {
		count := m.Intn(2)
		if d.Kind == api.List {
			count = m.Intn(most + 1)
		}
		for range count {
			if m.left > 0 {
				m.left--
				all = append(all, m.elem(d, most))
			}
		}
	}
	m.Shuffle(len(all), func(i, j int) { all[i], all[j] = all[j], all[i] })
	if m.slip() && len(all) > 0 {
		all = append(all, all[m.Intn(len(all))])
	}
	if m.slip() {
		all = append(all, api.Elem{Name: m.one(m.name(), "config", "")})
	}
	return all
}

// slip tells whether something is to be wrong here.
func (m *maker) slip() bool {
	return m.slips > 0 && m.Intn(m.slips) == 0
}

// elem answers an element of a definition.
func (m *maker) elem(d api.Def, most int) api.Elem {
	e := api.Elem{Name: d.Name, Space: m.one("", "", "u")}
	if m.Intn(5) == 0 {
		e.Attrs = []api.Attr{{Name: m.name(), Value: m.one("1", "delete", d.Name)}}
	}
	if d.Kind == api.Leaf {
		e.Text = m.value(d)
		if m.slip() {
			e.Text = m.one("", "01", "-0", "x\n", "TRUE", strings.Repeat("y", 129), "\x80")
		}
		if m.slip() {
			e.Kids = []api.Elem{{Name: m.one(d.Name, "x")}}
		}
		return e
	}
	e.Kids = m.elems(d.Kids, min(most, 4+most/16))
	if m.slip() {
		e.Text = m.one("x", " ")
	}
	for _, key := range d.Keys {
		named := func(e api.Elem) bool { return e.Name == key }
		if !slices.ContainsFunc(e.Kids, named) && d.Kind == api.List && (m.slips == 0 || m.Intn(6) > 0) {
			e.Kids = append(e.Kids, api.Elem{Name: key, Text: m.value(d.Kids[model.Find(d.Kids, key)])})
		}
	}
	return e
}

// unlike answers elements without those that are a second time there, at any depth.
func unlike(l []api.Def, elems []api.Elem) []api.Elem {
	var left []api.Elem
	seen := map[string]bool{}
	for _, e := range elems {
		d := l[model.Find(l, e.Name)]
		e.Kids = unlike(d.Kids, e.Kids)
		n, _ := readAlone(d, e)
		if as := e.Name + "\x00" + n.as; !seen[as] {
			seen[as] = true
			left = append(left, e)
		}
	}
	return left
}

// P14.1: schemas of all kinds, and such in which something was changed.
func TestAnySchema(t *testing.T) {
	m := &maker{Rand: rand.New(rand.NewSource(14))}
	came := map[bool]int{}
	for range 20000 {
		l := m.schema(1+m.Intn(5), 1+m.Intn(6))
		right(t, true, l...)
		m.spoil(&l)
		ok := rightApart(l)
		came[ok]++
		right(t, ok, l...)
	}
	if came[true] < 1000 || came[false] < 5000 {
		t.Error("the test's own schemas:", came)
	}
}

// spoil changes something in a schema.
func (m *maker) spoil(l *[]api.Def) {
	if m.Intn(8) == 0 || len(*l) == 0 {
		*l = append(*l, m.leaf(m.name()))
		return
	}
	d := &(*l)[m.Intn(len(*l))]
	if len(d.Kids) > 0 && m.Intn(3) > 0 {
		m.spoil(&d.Kids)
		return
	}
	switch m.Intn(7) {
	case 0:
		d.Name = m.one("", "1", "a b", "a", "b", "x")
	case 1:
		d.Kind = m.Intn(5)
	case 2:
		d.Type = m.Intn(6) - 1
	case 3:
		d.Keys = append(slices.Clone(d.Keys), m.one("", "a", "b", "x", d.Name))
	case 4:
		d.Keys = d.Keys[:m.Intn(len(d.Keys)+1)]
	case 5:
		d.Kids = d.Kids[:m.Intn(len(d.Kids)+1)]
	case 6:
		d.Values = append(d.Values[:m.Intn(len(d.Values)+1)], m.one("", "a", "b", "1"))
	}
}

// P14.1: elements of all kinds, right and wrong.
func TestAnyElems(t *testing.T) {
	came := map[api.Errno]int{}
	for seed := range int64(20000) {
		m := &maker{rand.New(rand.NewSource(seed)), 20 + int(seed)%60, 60}
		l := m.schema(1+m.Intn(5), 1+m.Intn(6))
		_, e := agrees(t, l, m.elems(l, m.Intn(6)))
		came[e]++
	}
	for _, e := range []api.Errno{api.OK, api.ErrName, api.ErrValue, api.ErrKey, api.ErrExists} {
		if came[e] < 300 {
			t.Error("the test's own elements:", came)
		}
	}
}

// P14.1: whether all is there that must be, of trees of all kinds.
func TestAnyCheck(t *testing.T) {
	came := map[api.Errno]int{}
	for seed := range int64(8000) {
		m := &maker{rand.New(rand.NewSource(seed)), 0, 100}
		l := m.schema(1+m.Intn(4), 1+m.Intn(5))
		nodes, e := agrees(t, l, unlike(l, m.elems(l, m.Intn(4))))
		if e != api.OK {
			t.Fatal(l, e)
		}
		want := map[bool]api.Errno{true: api.ErrMust}[lacksApart(l, nodes)]
		if got := model.Check(l, nodes); got != want {
			t.Fatalf("Check(%v, %v): %d, want %d", l, nodes, got, want)
		}
		came[want]++
	}
	if came[api.OK] < 1000 || came[api.ErrMust] < 500 {
		t.Error("the test's own trees:", came)
	}
}

// back fails the test unless a tree is parsed as it was written, or its text is
// too long; it tells whether it was.
func back(t *testing.T, l []api.Def, nodes []api.Node) bool {
	t.Helper()
	s := model.Text(nodes)
	if s != configApart(nodes) {
		t.Fatalf("Text(%v): %.300s", nodes, s)
	}
	if len(s) > 16384 {
		refuses(t, l, s, api.ErrLen)
		return false
	}
	got, e := model.Parse(l, s)
	if e != api.OK || !alike(got, nodes) || !model.Equal(got, nodes) || model.Text(got) != s {
		t.Fatalf("Parse(%.300s): %v, %d, want %v", s, got, e, nodes)
	}
	for _, space := range []string{"", "u"} {
		if again, e := model.Read(l, model.Elems(nodes, space)); e != api.OK || !alike(again, nodes) {
			t.Fatalf("Read of Elems(%v): %v, %d", nodes, again, e)
		}
	}
	return true
}

// fits tells whether nowhere more than 256 elements stand beside each other.
func fits(l []api.Elem) bool {
	return len(l) <= 256 && !slices.ContainsFunc(l, func(e api.Elem) bool { return !fits(e.Kids) })
}

// P14.2: trees of all kinds are parsed as they were written.
func TestThereAndBack(t *testing.T) {
	came := map[bool]int{}
	for seed := range int64(3000) {
		m := &maker{rand.New(rand.NewSource(seed)), 0, 3000}
		l := m.schema(1+m.Intn(10), 1+m.Intn(4))
		elems := unlike(l, m.elems(l, 1+m.Intn(250)))
		nodes, e := agrees(t, l, elems)
		if e == api.ErrLen {
			continue
		}
		if e != api.OK {
			t.Fatal(l, elems, e)
		}
		came[back(t, l, nodes)]++
		if s := xml.Text(holding("config", elems...)); len(s) <= 16384 && fits(elems) {
			parses(t, l, s, nodes...)
		}
		other := model.Copy(nodes)
		rand.New(rand.NewSource(seed)).Shuffle(len(other), func(i, j int) { other[i], other[j] = other[j], other[i] })
		model.Order(l, other)
		if !alike(other, nodes) {
			t.Fatalf("Order: %v, want %v", other, nodes)
		}
		if t.Failed() {
			return
		}
	}
	if came[true] < 1000 || came[false] < 30 {
		t.Error("the test's own trees:", came)
	}
}

// P14.2: all short values of blanks and of signs that are written as entities.
func TestThereAndBackOfValues(t *testing.T) {
	l := []api.Def{text("a"), list("b", "k", text("k"), text("a"))}
	everyText(" <>&\"']a", 4, func(s string) {
		back(t, l, []api.Node{value("a", s), node("b", value("k", s), value("a", s)), node("b", value("k", s+"a"))})
	})
	for i := 32; i <= 126; i++ {
		s := string([]byte{byte(i)})
		back(t, l, []api.Node{value("a", s), node("b", value("k", "")), node("b", value("k", s+"!")), node("b", value("k", s+s+"~"))}[:2+i%2])
		back(t, l, []api.Node{value("a", strings.Repeat(s, 128))})
	}
}

// P14.2: trees as great as they may be, in each way.
func TestThereAndBackAtLimits(t *testing.T) {
	long := strings.Repeat("n", 32)
	deep, d := value(long, "x"), text(long)
	for i := range 9 {
		if i%2 == 0 {
			deep, d = node(long, deep), box(long, d)
		} else {
			deep, d = node(long, value("k", " "), deep), list(long, "k", text("k"), d)
		}
	}
	right(t, true, d)
	back(t, []api.Def{d}, []api.Node{deep})
	var entries []api.Node
	for i := range 256 {
		entries = append(entries, node("l", value("k", strconv.Itoa(1000+i))))
	}
	l := []api.Def{list("l", "k", text("k")), text("x"), box("b", list("l", "k", text("k")))}
	for _, nodes := range [][]api.Node{entries, append(slices.Clone(entries[:255]), value("x", "")), {node("b", entries...)}, append(slices.Clone(entries[:255]), node("b", entries[:200]...))} {
		if !back(t, l, nodes) {
			t.Error("a tree that should be short enough:", len(model.Text(nodes)))
		}
	}
	var wide []api.Node
	for _, d := range leaves(32) {
		wide = append(wide, value(d.Name, strings.Repeat("x", 128)))
	}
	back(t, leaves(32), wide)
	// entries of 15 long values each, and then what makes a text of just 16384 bytes
	fields := append([]api.Def{text("k")}, leaves(31)...)
	l = []api.Def{list("l", "k", fields...), text("x")}
	left := 16384 - len("<config></config>") - len("<x></x>")
	var most []api.Node
	for i := 0; left > 3000; i++ {
		n := node("l", value("k", strconv.Itoa(i)))
		for _, d := range leaves(15) {
			n.Kids = append(n.Kids, value(d.Name, strings.Repeat("x", 128)))
		}
		left -= len(model.Text([]api.Node{n})) - len("<config></config>")
		most = append(most, n)
	}
	n := node("l", value("k", "x"))
	left -= len("<l><k>x</k></l>")
	for i := 0; left > 128; i++ {
		s := strings.Repeat("y", min(128, left-64)-9)
		n.Kids = append(n.Kids, value("n"+strconv.Itoa(i), s))
		left -= len(model.Text(n.Kids[i+1:])) - len("<config></config>")
	}
	most = append(most, n, value("x", strings.Repeat("z", left)))
	if s := model.Text(most); len(s) != 16384 || !back(t, l, most) {
		t.Error("the longest text:", len(s))
	}
	most[len(most)-1].Value += "z"
	if back(t, l, most) {
		t.Error("a text that is too long")
	}
}
