package model_test

import (
	"strings"
	"testing"

	"tabulary/api"
	"tabulary/model"
)

// P14.1: nodes as elements of a namespace.
func TestElems(t *testing.T) {
	l := []api.Node{value("name", "n & <m>"), node("port", value("name", ""), node("at", node("deep", value("on", "true")), value("side", "left"))), node("port", value("name", " ")), value("size", "0")}
	for _, space := range []string{"", "u", "urn:tabulary", " <\x80"} {
		in := func(e api.Elem) api.Elem {
			e.Space = space
			return e
		}
		want := []api.Elem{
			in(saying("name", "n & <m>")),
			in(holding("port", in(saying("name", "")), in(holding("at", in(holding("deep", in(saying("on", "true")))), in(saying("side", "left")))))),
			in(holding("port", in(saying("name", " ")))),
			in(saying("size", "0")),
		}
		if got := model.Elems(l, space); !alikeElems(got, want) {
			t.Errorf("Elems(%q): %v", space, got)
		}
	}
	if got := model.Elems(nil, "u"); len(got) != 0 {
		t.Error(got)
	}
	if got := model.Elems([]api.Node{{}}, ""); !alikeElems(got, []api.Elem{{}}) {
		t.Error(got)
	}
}

// P14.1: trees as texts.
func TestText(t *testing.T) {
	for want, l := range map[string][]api.Node{
		"<config/>":                                    nil,
		"<config><a/></config>":                        {value("a", "")},
		"<config><a>x</a></config>":                    {value("a", "x")},
		"<config><a>&#32;</a></config>":                {value("a", " ")},
		"<config><a> x </a></config>":                  {value("a", " x ")},
		"<config><a>&lt;&amp;&gt;&quot;'</a></config>": {value("a", `<&>"'`)},
		"<config><b><a>1</a><c/></b><b><a>2</a></b><d><e><f>g</f></e></d></config>":           {node("b", value("a", "1"), value("c", "")), node("b", value("a", "2")), node("d", node("e", value("f", "g")))},
		"<config><config><config>config</config></config></config>":                           {node("config", value("config", "config"))},
		"<config>" + strings.Repeat("<a>"+strings.Repeat("x", 128)+"</a>", 300) + "</config>": repeated(value("a", strings.Repeat("x", 128)), 300),
	} {
		if got := model.Text(l); got != want || configApart(l) != want {
			t.Errorf("Text(%v): %.300s, want %.300s", l, got, want)
		}
	}
	if got := model.Text([]api.Node{}); got != "<config/>" {
		t.Error(got)
	}
}

// repeated answers a node so many times.
func repeated(n api.Node, count int) []api.Node {
	var l []api.Node
	for range count {
		l = append(l, n)
	}
	return l
}

// P14.1: leaves that must be there.
func TestCheck(t *testing.T) {
	inner := []api.Def{must(text("m")), text("o"), box("in", must(flag("f")), text("g"))}
	l := []api.Def{text("a"), must(number("b")), box("c", inner...), list("d", "k", append([]api.Def{text("k")}, inner...)...), box("e", box("c", must(text("m"))))}
	b := value("b", "1")
	for _, c := range []struct {
		nodes []api.Node
		want  api.Errno
	}{
		{nil, api.ErrMust},
		{[]api.Node{value("a", "1")}, api.ErrMust},
		{[]api.Node{value("B", "1")}, api.ErrMust},
		{[]api.Node{node("c", value("m", "1"), b)}, api.ErrMust},
		{[]api.Node{b}, api.OK},
		{[]api.Node{value("b", "")}, api.OK},
		{[]api.Node{value("a", "1"), b}, api.OK},
		{[]api.Node{b, node("c", value("m", ""))}, api.OK},
		{[]api.Node{b, node("c", value("o", ""))}, api.ErrMust},
		{[]api.Node{node("c", value("m", ""))}, api.ErrMust},
		{[]api.Node{b, node("c", value("m", ""), node("in", value("f", "true")))}, api.OK},
		{[]api.Node{b, node("c", value("m", ""), node("in", value("g", "x")))}, api.ErrMust},
		{[]api.Node{b, node("c", node("in", value("f", "true")))}, api.ErrMust},
		{[]api.Node{b, node("c", node("in", value("f", "true"), value("m", "1")))}, api.ErrMust},
		{[]api.Node{b, node("c", value("m", "1"), node("in", value("g", "x"))), value("f", "true")}, api.ErrMust},
		{[]api.Node{b, node("d", value("k", "1"), value("m", "1"))}, api.OK},
		{[]api.Node{b, node("d", value("k", "1"))}, api.ErrMust},
		{[]api.Node{b, node("d", value("k", "1"), value("m", "1")), node("d", value("k", "2"))}, api.ErrMust},
		{[]api.Node{b, node("d", value("k", "1")), node("d", value("k", "2"), value("m", "1"))}, api.ErrMust},
		{[]api.Node{b, node("d", value("k", "1"), value("m", "1")), node("d", value("k", "2"), value("m", "1"))}, api.OK},
		{[]api.Node{b, node("d", value("k", "1"), value("m", "1"), node("in", value("g", "")))}, api.ErrMust},
		{[]api.Node{b, node("e", node("c", value("m", "1")))}, api.OK},
		{[]api.Node{b, node("e", node("c", value("o", "1")))}, api.ErrMust},
		{[]api.Node{node("e", node("c", value("m", "1")))}, api.ErrMust},
	} {
		if got := model.Check(l, c.nodes); got != c.want || lacksApart(l, c.nodes) != (c.want != api.OK) {
			t.Errorf("Check(%v): %d, want %d", c.nodes, got, c.want)
		}
	}
	if got := model.Check(nil, nil); got != api.OK {
		t.Error(got)
	}
}

// P14.1: what must be there is looked for in all levels, and of leaves alone.
func TestCheckDeep(t *testing.T) {
	for n := range 10 {
		l := []api.Def{nested(n, must(text("m")))}
		right(t, true, l...)
		without := api.Node{Name: "?"}
		for _, c := range []struct {
			n    api.Node
			want api.Errno
		}{{value("m", ""), api.OK}, {without, api.ErrMust}} {
			for i := range n {
				if i%2 == 0 {
					c.n = node("b", c.n)
				} else {
					c.n = node("l", value("k", "1"), c.n)
				}
			}
			if got := model.Check(l, []api.Node{c.n}); got != c.want {
				t.Errorf("%d levels, %v: %d", n+1, c.n, got)
			}
		}
	}
	for _, d := range []api.Def{box("a", text("b")), list("a", "b", text("b"))} {
		d.Must = true
		if got := model.Check([]api.Def{d, box("c", d)}, []api.Node{node("c", value("x", ""))}); got != api.OK {
			t.Errorf("%v: %d", d, got)
		}
	}
}

// P14.1: the same nodes, and others.
func TestEqual(t *testing.T) {
	all := [][]api.Node{
		nil,
		{value("a", "")},
		{value("a", "1")},
		{value("a", "2")},
		{value("A", "1")},
		{value("b", "1")},
		{value("a", "1"), value("b", "1")},
		{value("b", "1"), value("a", "1")},
		{value("a", "1"), value("a", "1")},
		{node("a", value("a", "1"))},
		{node("a", value("a", "2"))},
		{node("a", value("b", "1"))},
		{node("b", value("a", "1"))},
		{node("a", value("a", "1"), value("b", "1"))},
		{node("a", value("b", "1"), value("a", "1"))},
		{node("a", value("a", "1")), value("b", "1")},
		{node("a", node("a", value("a", "1")))},
		{node("a", node("a", value("a", "2")))},
		{node("a", node("a", value("a", "1"), value("b", "2")))},
		{node("a", node("a", value("a", "1")), value("b", "2"))},
		{node("a", node("a", value("a", "1"))), value("b", "2")},
		{node("a", node("b", value("c", "1"))), node("a", node("b", value("c", "2")))},
		{node("a", node("b", value("c", "2"))), node("a", node("b", value("c", "1")))},
		{node("a", node("b", value("c", "1"))), node("a", node("b", value("c", "1")))},
		{node("a", node("b", value("c", "1"))), node("a", node("b"))},
		{node("a", node("b")), node("a", node("b", value("c", "1")))},
		{{}},
		{{}, {}},
	}
	for i, a := range all {
		for j, b := range all {
			if got := model.Equal(a, nodesAnew(b)); got != (i == j) || alike(a, b) != got {
				t.Errorf("Equal(%v, %v): %t", a, b, got)
			}
		}
		if !model.Equal(a, a) || !model.Equal(a, model.Copy(a)) || !alike(a, model.Copy(a)) {
			t.Errorf("Copy(%v): %v", a, model.Copy(a))
		}
	}
	if !model.Equal(nil, []api.Node{}) || !model.Equal([]api.Node{}, nil) {
		t.Error("two lists without nodes")
	}
	if !model.Equal([]api.Node{value("a", "")}, []api.Node{{Name: "a", Kids: []api.Node{}}}) {
		t.Error("two nodes without nodes")
	}
}
