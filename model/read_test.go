package model_test

import (
	"slices"
	"strconv"
	"strings"
	"testing"

	"tabulary/api"
	"tabulary/model"
	"tabulary/xml"
)

// town is a schema of all kinds.
func town() []api.Def {
	return []api.Def{
		text("name"),
		list("port", "name", must(number("speed")), text("name"), box("at", enum("side", "left", "right"), box("deep", flag("on")))),
		box("box", enum("color", "red", "green"), list("item", "x y", number("x"), text("y"), text("note"))),
		number("size"),
		box("empty", box("in", text("leaf"))),
		text("zone"),
	}
}

// in answers a document of a tree.
func in(s string) string {
	return "<config>" + s + "</config>"
}

// P14.1: texts of trees.
func TestParse(t *testing.T) {
	l := town()
	for s, want := range map[string][]api.Node{
		"":                              nil,
		" <!-- x --> ":                  nil,
		"<name>n</name>":                {value("name", "n")},
		"<name/>":                       {value("name", "")},
		"<name> </name>":                {value("name", "")},
		"<name> n </name>":              {value("name", " n ")},
		"<name>&#32;</name>":            {value("name", " ")},
		"<name>&lt;&amp;</name>":        {value("name", "<&")},
		"<name><![CDATA[<b>]]></name>":  {value("name", "<b>")},
		"<name x='1'>n</name>":          {value("name", "n")},
		"<name xmlns='u'>n</name>":      {value("name", "n")},
		"<p:name xmlns:p='u'/>":         {value("name", "")},
		"<size>-5</size><name>n</name>": {value("name", "n"), value("size", "-5")},
		"<port><name>a</name></port>":   {node("port", value("name", "a"))},
		"<port><name/></port>":          {node("port", value("name", ""))},
		"<port><at/><name>b</name></port><port><speed>5</speed><name>a</name></port>": {node("port", value("speed", "5"), value("name", "a")), node("port", value("name", "b"))},
		"<port><at><deep><on>true</on></deep></at><name>a</name></port>":              {node("port", value("name", "a"), node("at", node("deep", value("on", "true"))))},
		"<port><at><deep/></at><name>a</name><speed>1</speed></port>":                 {node("port", value("speed", "1"), value("name", "a"))},
		"<box/>":                       nil,
		"<box> </box>":                 nil,
		"<empty/><box/><name>n</name>": {value("name", "n")},
		"<empty><in/></empty>":         nil,
		"<empty><in> </in> </empty><size>0</size>":                                                 {value("size", "0")},
		"<empty><in><leaf/></in></empty>":                                                          {node("empty", node("in", value("leaf", "")))},
		"<box><color>red</color></box>":                                                            {node("box", value("color", "red"))},
		"<box operation='delete' xmlns='v'><color>green</color></box>":                             {node("box", value("color", "green"))},
		"<box><item><y>b</y><x>2</x></item><item><x>10</x><y>a</y></item><color>red</color></box>": {node("box", value("color", "red"), node("item", value("x", "10"), value("y", "a")), node("item", value("x", "2"), value("y", "b")))},
		"<box><item><x>1</x><y>b</y></item><item><x>1</x><y>a</y><note>n</note></item></box>":      {node("box", node("item", value("x", "1"), value("y", "a"), value("note", "n")), node("item", value("x", "1"), value("y", "b")))},
	} {
		parses(t, l, in(s), want...)
		e, _ := xml.Parse(in(s))
		agrees(t, l, e.Kids)
	}
	parses(t, l, "<?xml version='1.0'?><!-- c --> <config x='1' y='2'><name>n</name></config> ", value("name", "n"))
	parses(t, l, "<config/>")
	parses(t, nil, "<config/>")
	parses(t, nil, "<config> <!-- x --> </config>")
	parses(t, l, "<config xmlns='u'><name>n</name></config>", value("name", "n"))
	parses(t, l, "<p:config xmlns:p='u'><name>n</name></p:config>", value("name", "n"))
}

// P14.1: texts of no tree.
func TestParseErrors(t *testing.T) {
	l := town()
	for s, want := range map[string]api.Errno{
		"":                                      api.ErrForm,
		"config":                                api.ErrForm,
		"<config>":                              api.ErrForm,
		"<config/><config/>":                    api.ErrForm,
		"<Config/>":                             api.ErrForm,
		"<configs/>":                            api.ErrForm,
		"<name/>":                               api.ErrForm,
		"<name>n</name>":                        api.ErrForm,
		"<x/>":                                  api.ErrForm,
		"<x><config/></x>":                      api.ErrForm,
		"<x><y/></x>":                           api.ErrForm,
		"<x>y</x>":                              api.ErrForm,
		"<config>x</config>":                    api.ErrForm,
		"<config>&#32;</config>":                api.ErrForm,
		"<config><![CDATA[ ]]></config>":        api.ErrForm,
		"<config>x<name/></config>":             api.ErrForm,
		"<config><x/>y</config>":                api.ErrForm,
		"<config><x/>":                          api.ErrForm,
		"<config><config/></config>":            api.ErrName,
		in(strings.Repeat("<name>", 16)):        api.ErrDeep,
		in(strings.Repeat("<b>", 15)):           api.ErrForm,
		in(strings.Repeat("<x/>", 256)):         api.ErrName,
		in(strings.Repeat("<x/>", 257)):         api.ErrLen,
		in(strings.Repeat("<name/>", 257)):      api.ErrLen,
		in(strings.Repeat("<name/>", 256)):      api.ErrExists,
		in(strings.Repeat(" ", 16384)):          api.ErrLen,
		"<x>" + strings.Repeat("y", 16384):      api.ErrLen,
		in("<name>\x80</name>"):                 api.ErrForm,
		in("<name>" + strings.Repeat("x", 129)): api.ErrForm,
		in("<name>" + strings.Repeat("x", 129) + "</name>"): api.ErrValue,
		"<x xmlns:config='u'/>":                             api.ErrForm,
		"<config:x xmlns:config='u'/>":                      api.ErrForm,
	} {
		refuses(t, l, s, want)
	}
}

// P14.1: the errors of elements.
func TestReadErrors(t *testing.T) {
	l := town()
	for want, all := range map[api.Errno][]string{
		api.ErrName:  {"<x/>", "<Name/>", "<speed/>", "<on/>", "<config/>", "<port><x/></port>", "<port><port/></port>", "<port><name>a</name><size>1</size></port>", "<box><box/></box>", "<box><item><z/></item></box>", "<empty><in><in/></in></empty>", "<empty><leaf/></empty>", "<x><y/></x>", "<x>y</x>"},
		api.ErrValue: {"<size/>", "<size>a</size>", "<size>01</size>", "<name>a\tb</name>", "<name>&#10;</name>", "<name><x/></name>", "<name><name/></name>", "<size><size>1</size></size>", "<port><speed/><name>a</name></port>", "<port><at><side>up</side></at></port>", "<box><color/></box>", "<box><color>Red</color></box>", "<port>a</port>", "<box>t</box>", "<box>&#32;</box>", "<empty><in>t</in></empty>", "<port><at><deep><on>yes</on></deep></at></port>", "<port><name>a</name><at>x</at></port>"},
		api.ErrKey:   {"<port/>", "<port> </port>", "<port><speed>1</speed></port>", "<port><at><side>left</side></at></port>", "<box><item/></box>", "<box><item><x>1</x></item></box>", "<box><item><y>1</y></item></box>", "<box><item><note/></item></box>"},
		api.ErrExists: {"<name/><name/>", "<name>a</name><name>b</name>", "<name>a</name><size>1</size><name>a</name>", "<box/><box/>", "<box><color>red</color></box><box/>", "<box/><box><color>red</color></box>", "<empty><in/></empty><name/><empty/>", "<empty><in/><in/></empty>",
			"<port><name>a</name></port><port><name>a</name></port>", "<port><name>a</name></port><port><name>b</name></port><port><speed>1</speed><name>a</name></port>", "<port><name/></port><port><name/></port>", "<port><name>a</name><name>a</name></port>", "<port><name>a</name><name>b</name></port>", "<port><name>a</name><at/><at/></port>",
			"<box><item><x>1</x><y>2</y></item><item><y>2</y><note/><x>1</x></item></box>", "<p:name xmlns:p='u'/><name/>", "<port a='1'><name>a</name></port><port a='2'><name>a</name></port>"},
	} {
		for _, s := range all {
			e, f := xml.Parse(in(s))
			if f != api.OK {
				t.Fatal(s)
			}
			refuses(t, l, in(s), want)
			refuses(t, l, in("<zone>n</zone> <!-- --> "+s+"<zone>n</zone>"), want)
			agrees(t, l, e.Kids)
		}
	}
}

// P14.1: of several errors the one of the first element is told, and of one
// element the one that is named first.
func TestFirstError(t *testing.T) {
	l := town()
	wrong := []struct {
		s string
		e api.Errno
	}{{"<x/>", api.ErrName}, {"<size/>", api.ErrValue}, {"<port/>", api.ErrKey}, {"<name/><name/>", api.ErrExists}, {"<box>t</box>", api.ErrValue}, {"<empty><y/></empty>", api.ErrName}}
	for i, a := range wrong {
		for j, b := range wrong {
			if i != j {
				refuses(t, l, in(a.s+b.s), a.e)
				refuses(t, l, in("<empty/>"+strings.ReplaceAll(a.s, "empty", "box")+b.s), a.e)
			}
		}
	}
	for s, want := range map[string]api.Errno{
		"<name/><name><x/></name>":                                                            api.ErrValue,
		"<size>1</size><size>a</size>":                                                        api.ErrValue,
		"<box/><box>t</box>":                                                                  api.ErrValue,
		"<box/><box><x/></box>":                                                               api.ErrName,
		"<box/><box><color>blue</color></box>":                                                api.ErrValue,
		"<port><name>a</name></port><port><name>a</name><x/></port>":                          api.ErrName,
		"<port><name>a</name></port><port><name>a</name><speed/></port>":                      api.ErrValue,
		"<port><name>a</name></port><port><name>a</name><name>a</name></port>":                api.ErrExists,
		"<port><name>a</name></port><port><speed>1</speed></port>":                            api.ErrKey,
		"<port><x/></port>":                                                                   api.ErrName,
		"<port><speed/></port>":                                                               api.ErrValue,
		"<port><speed>1</speed><speed>1</speed></port>":                                       api.ErrExists,
		"<port><speed>1</speed><speed>a</speed><x/></port>":                                   api.ErrValue,
		"<box><item><x>1</x></item><x/></box>":                                                api.ErrKey,
		"<box><item><x>1</x><y/></item><item><x>1</x><y/></item><item/></box>":                api.ErrExists,
		"<box><item><x>1</x><y/></item><item/><item><x>1</x><y/></item></box>":                api.ErrKey,
		"<port><at><deep><on>1</on><x/></deep><deep/></at><at/></port>":                       api.ErrValue,
		"<port><at><deep/><deep><x/></deep></at></port>":                                      api.ErrName,
		"<port><at><deep/><deep/></at><x/></port>":                                            api.ErrExists,
		"<port><at/><at/></port>":                                                             api.ErrExists,
		"<box><item><x>1</x><y>a</y></item></box><box/>":                                      api.ErrExists,
		"<box><item><x>1</x><y>a</y></item><item><x>1</x><y>a</y><note/><note/></item></box>": api.ErrExists,
	} {
		refuses(t, l, in(s), want)
		e, _ := xml.Parse(in(s))
		agrees(t, l, e.Kids)
	}
	for _, both := range []struct {
		e    api.Elem
		want api.Errno
	}{
		{api.Elem{Name: "x", Text: "t", Kids: []api.Elem{saying("x", "")}}, api.ErrName},
		{api.Elem{Name: "name", Text: "t", Kids: []api.Elem{saying("x", "")}}, api.ErrValue},
		{api.Elem{Name: "name", Kids: []api.Elem{saying("x", "")}}, api.ErrValue},
		{api.Elem{Name: "box", Text: "t", Kids: []api.Elem{saying("x", "")}}, api.ErrValue},
		{api.Elem{Name: "port", Text: "t", Kids: []api.Elem{saying("name", "a")}}, api.ErrValue},
		{api.Elem{Name: "port", Text: "t"}, api.ErrValue},
		{api.Elem{Name: "name", Text: "a\n"}, api.ErrValue},
		{api.Elem{Name: "", Text: ""}, api.ErrName},
	} {
		if got, e := model.Read(l, []api.Elem{both.e}); e != both.want || got != nil {
			t.Errorf("Read(%v): %v, %d", both.e, got, e)
		}
		agrees(t, l, []api.Elem{both.e})
	}
}

// entries answers n elements of the list port, the last one first, and what is
// read of them.
func entries(n int) ([]api.Elem, []api.Node) {
	var elems []api.Elem
	var nodes []api.Node
	for i := range n {
		s := strconv.Itoa(100000 + i)
		elems = append(elems, holding("port", saying("name", s)))
		nodes = append(nodes, node("port", value("name", s)))
	}
	slices.Reverse(elems)
	return elems, nodes
}

// P14.1: up to 256 nodes stand beside each other; containers without nodes don't
// count.
func TestReadSize(t *testing.T) {
	l := town()
	empties := []api.Elem{holding("box"), holding("empty", holding("in"))}
	for _, n := range []int{1, 255, 256, 257, 258, 600} {
		elems, nodes := entries(n)
		for _, more := range [][]api.Elem{nil, empties[:1], empties} {
			want := api.OK
			if n > 256 {
				want = api.ErrLen
			}
			all := slices.Concat(more, elems)
			if _, e := agrees(t, l, all); e != want {
				t.Errorf("%d and %d empty ones: %d", n, len(more), e)
			}
			if got, e := model.Read(l, slices.Concat(elems, more)); e != want || want == api.OK && !alike(got, nodes) || want != api.OK && got != nil {
				t.Errorf("%d and %d empty ones: %d nodes, %d", n, len(more), len(got), e)
			}
		}
		if _, e := agrees(t, l, append(slices.Clone(elems), saying("name", ""))); (e == api.OK) != (n <= 255) {
			t.Errorf("%d and a leaf: %d", n, e)
		}
		if _, e := agrees(t, l, append(slices.Clone(elems), saying("x", ""))); e != api.ErrName {
			t.Errorf("%d and one of no definition: %d", n, e)
		}
		if _, e := agrees(t, l, append(slices.Clone(elems), elems[0])); e != api.ErrExists {
			t.Errorf("%d and one again: %d", n, e)
		}
	}
}

// P14.1: too many nodes in another node are that one's error.
func TestReadSizeWithin(t *testing.T) {
	l := []api.Def{box("a", town()[1], text("x")), list("b", "k", text("k"), town()[1]), text("c")}
	for _, n := range []int{255, 256, 257} {
		elems, _ := entries(n)
		over := func(m int) api.Errno {
			if m > 256 {
				return api.ErrLen
			}
			return api.OK
		}
		for _, c := range []struct {
			elems []api.Elem
			want  api.Errno
		}{
			{[]api.Elem{holding("a", elems...)}, over(n)},
			{[]api.Elem{holding("a", append(slices.Clone(elems), saying("x", ""))...)}, over(n + 1)},
			{[]api.Elem{holding("b", append(slices.Clone(elems), saying("k", ""))...)}, over(n + 1)},
			{[]api.Elem{holding("a", append(slices.Clone(elems), saying("y", ""))...)}, api.ErrName},
			{[]api.Elem{saying("y", ""), holding("a", elems...)}, api.ErrName},
		} {
			if _, e := agrees(t, l, c.elems); e != c.want {
				t.Errorf("%d: %d, want %d", n, e, c.want)
			}
		}
		// ahead of the entry's key, and of what comes behind the node
		for _, elems := range [][]api.Elem{{holding("b", elems...)}, {holding("a", append(slices.Clone(elems), saying("x", ""))...), saying("y", "")}, {saying("c", ""), holding("a", append(slices.Clone(elems), saying("x", ""))...), saying("c", "")}} {
			agrees(t, l, elems)
		}
	}
	full, _ := entries(256)
	if _, e := agrees(t, l, []api.Elem{holding("a", full...), holding("b", append(slices.Clone(full[:255]), saying("k", "1"))...), holding("b", append(slices.Clone(full[:255]), saying("k", "2"))...)}); e != api.OK {
		t.Error(e)
	}
}

// P14.1: namespaces and attributes aren't looked at.
func TestReadOfAnySpace(t *testing.T) {
	l := town()
	e, _ := xml.Parse(in("<port><name>a</name><at><side>left</side></at></port><name>n</name>"))
	want, _ := model.Read(l, e.Kids)
	var dress func(all []api.Elem)
	dress = func(all []api.Elem) {
		for i := range all {
			all[i].Space = []string{"u", "", "\x00", "urn:tabulary"}[i%4]
			all[i].Attrs = []api.Attr{{Name: "operation", Value: "delete"}, {Name: "", Value: "\x80"}, {Name: "name", Value: "b"}}
			dress(all[i].Kids)
		}
	}
	dress(e.Kids)
	if got, f := model.Read(l, e.Kids); f != api.OK || !alike(got, want) || len(got) != 2 {
		t.Error(got, f)
	}
	agrees(t, l, e.Kids)
}
