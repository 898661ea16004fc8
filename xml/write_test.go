package xml_test

import (
	"runtime/debug"
	"strings"
	"testing"

	"tabulary/api"
	"tabulary/xml"
)

// writes fails the test unless an element is written like this.
func writes(t *testing.T, e api.Elem, want string) {
	t.Helper()
	if got := xml.Text(e); got != want || got != written(e, "") {
		t.Errorf("Text(%+v): %s, want %s", e, short(got), short(want))
	}
}

// P13.1: elements as they are written.
func TestText(t *testing.T) {
	for want, e := range map[string]api.Elem{
		"<a/>":                           el("a"),
		"<a>x</a>":                       saying(el("a"), "x"),
		"<a><b/></a>":                    with(el("a"), el("b")),
		"<a><b/><c>1</c><b/></a>":        with(el("a"), el("b"), saying(el("c"), "1"), el("b")),
		"<a><b><c/></b><d/></a>":         with(el("a"), with(el("b"), el("c")), el("d")),
		`<a x="1"/>`:                     el("a", "x", "1"),
		`<a x="1" b="2" y=""/>`:          el("a", "x", "1", "b", "2", "y", ""),
		`<a x="1">t</a>`:                 saying(el("a", "x", "1"), "t"),
		`<a x="it's"/>`:                  el("a", "x", "it's"),
		`<a xmlns="u"/>`:                 of("u", el("a")),
		`<a xmlns="u" x="1">t</a>`:       of("u", saying(el("a", "x", "1"), "t")),
		`<a xmlns="u"><b/></a>`:          of("u", with(el("a"), of("u", el("b")))),
		`<a xmlns="u"><b xmlns=""/></a>`: of("u", with(el("a"), el("b"))),
		`<a><b xmlns="u"/><b/></a>`:      with(el("a"), of("u", el("b")), el("b")),
		`<a xmlns="u"><b xmlns="v"><c/><d xmlns="u"/><e xmlns=""/></b><f/></a>`: of("u", with(el("a"), of("v", with(el("b"), of("v", el("c")), of("u", el("d")), el("e"))), of("u", el("f")))),
		`<a xmlns="&quot;&lt;&amp;&gt;"/>`:                                      of("\"<&>", el("a")),
		`<a xmlns="&#32;"/>`:                                                    of(" ", el("a")),
		`<a xmlns="u "/>`:                                                       of("u ", el("a")),
		"<a>x<b/></a>":                                                          with(saying(el("a"), "x"), el("b")), // not that it may be
		"<a>&#32;<b/></a>":                                                      with(saying(el("a"), " "), el("b")),
		"</>":                                                                   {},
		"<></></>":                                                              with(el(""), el("")),
		`< ="">  x</>`:                                                          saying(el("", "", ""), "  x"),
		`<a" xmlns="x"/>`:                                                       el("a\"", "xmlns", "x"),
	} {
		writes(t, e, want)
	}
}

// P13.1: each byte in texts and in values.
func TestTextOfEachByte(t *testing.T) {
	as := map[byte]string{'&': "&amp;", '<': "&lt;", '>': "&gt;", '"': "&quot;", 13: "&#13;", 10: "&#10;", 9: "&#9;"}
	for i := range 256 {
		s := string([]byte{byte(i)})
		want := as[byte(i)]
		if want == "" {
			want = s
		}
		for _, c := range [][2]string{{"x", ""}, {"", "x"}, {"x", "x"}, {" x ", " "}, {"\t", ""}} {
			text := strings.ReplaceAll(c[0], "\t", "&#9;") + want + c[1]
			writes(t, saying(el("a"), c[0]+s+c[1]), "<a>"+text+"</a>")
			writes(t, el("a", "b", c[0]+s+c[1]), `<a b="`+text+`"/>`)
			writes(t, of(c[0]+s+c[1], el("a")), `<a xmlns="`+text+`"/>`)
		}
	}
}

// P13.1: 32 is an entity just where nothing else is.
func TestSpaces(t *testing.T) {
	for n := range 20 {
		s, as := strings.Repeat(" ", n), strings.Repeat("&#32;", n)
		if n > 0 {
			writes(t, saying(el("a"), s), "<a>"+as+"</a>")
			writes(t, of(s, el("a")), `<a xmlns="`+as+`"/>`)
		}
		writes(t, el("a", "x", s), `<a x="`+as+`"/>`)
		for _, other := range []string{"x", "&amp;", "&#9;", "&#10;", "&#13;", "\x00", "\xa0"} {
			sign := strings.NewReplacer("&amp;", "&", "&#9;", "\t", "&#10;", "\n", "&#13;", "\r").Replace(other)
			for _, c := range [][2]string{{s, ""}, {"", s}, {s, s}} {
				writes(t, saying(el("a"), c[0]+sign+c[1]), "<a>"+c[0]+other+c[1]+"</a>")
				writes(t, el("a", "x", c[0]+sign+c[1]), `<a x="`+c[0]+other+c[1]+`"/>`)
			}
		}
	}
}

// P13.1: what is handed in stays as it was, and so does the room behind it.
func TestTextChangesNothing(t *testing.T) {
	make3 := func() api.Elem {
		e := of("u", el("a", "y", "1", "x", "2", "z", "3"))
		e.Attrs = e.Attrs[:2]
		kids := []api.Elem{with(el("b"), el("c")), el("d"), el("e")}
		e.Kids = kids[:2]
		return e
	}
	e := make3()
	for range 2 {
		writes(t, e, `<a xmlns="u" y="1" x="2"><b xmlns=""><c/></b><d xmlns=""/></a>`)
	}
	if want := make3(); !same(e, want) || !same(e.Kids[:3][2], el("e")) || e.Attrs[:3][2] != want.Attrs[:3][2] {
		t.Errorf("%+v", e)
	}
}

// P0: an element may be deeper than calls can be, or have as many others.
func TestTextOfMany(t *testing.T) {
	defer debug.SetMaxStack(debug.SetMaxStack(1 << 26))
	const n = 1 << 20
	e := el("a")
	for range n - 1 {
		e = with(el("a"), e)
	}
	want := strings.Repeat("<a>", n-1) + "<a/>" + strings.Repeat("</a>", n-1)
	if got := xml.Text(e); got != want {
		t.Error(short(got))
	}
	if _, err := xml.Parse(want); err != api.ErrLen {
		t.Error(err)
	}
	kids := make([]api.Elem, n)
	for i := range kids {
		kids[i] = saying(el("b"), "1")
	}
	if got := xml.Text(with(el("a"), kids...)); got != "<a>"+strings.Repeat("<b>1</b>", n)+"</a>" {
		t.Error(short(got))
	}
}
