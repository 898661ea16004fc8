package xml_test

import (
	"testing"

	"tabulary/api"
)

// P13.1: the namespaces of names with and without a prefix.
func TestNamespaces(t *testing.T) {
	for s, want := range map[string]api.Elem{
		"<a xmlns='u'/>":                                             of("u", el("a")),
		"<a xmlns=''/>":                                              el("a"),
		"<p:a xmlns:p='u'/>":                                         of("u", el("a")),
		"<p:a xmlns:p='u'></p:a>":                                    of("u", el("a")),
		"<p:a xmlns:p='u'>x</p:a >":                                  saying(of("u", el("a")), "x"),
		"<a xmlns:p='u'/>":                                           el("a"),
		"<a xmlns='u'><b/></a>":                                      with(of("u", el("a")), of("u", el("b"))),
		"<a xmlns='u'><b><c/></b></a>":                               with(of("u", el("a")), with(of("u", el("b")), of("u", el("c")))),
		"<a xmlns='u'><b xmlns='v'><c/></b><d/></a>":                 with(of("u", el("a")), with(of("v", el("b")), of("v", el("c"))), of("u", el("d"))),
		"<a xmlns='u'><b xmlns=''><c/></b><d/></a>":                  with(of("u", el("a")), with(el("b"), el("c")), of("u", el("d"))),
		"<a xmlns='u'><b xmlns='v'/><c/></a>":                        with(of("u", el("a")), of("v", el("b")), of("u", el("c"))),
		"<p:a xmlns:p='u'><b/><p:c/></p:a>":                          with(of("u", el("a")), el("b"), of("u", el("c"))),
		"<p:a xmlns:p='u' xmlns='v'><b/><p:c/></p:a>":                with(of("u", el("a")), of("v", el("b")), of("u", el("c"))),
		"<a xmlns='v' xmlns:p='u'><p:b/></a>":                        with(of("v", el("a")), of("u", el("b"))),
		"<p:a xmlns:p='u'><p:b xmlns:p='v'><p:c/></p:b><p:d/></p:a>": with(of("u", el("a")), with(of("v", el("b")), of("v", el("c"))), of("u", el("d"))),
		"<p:a xmlns:p='u' xmlns:q='u'><q:a/></p:a>":                  with(of("u", el("a")), of("u", el("a"))),
		"<p:a xmlns:P='v' xmlns:p='u'><P:a/></p:a>":                  with(of("u", el("a")), of("v", el("a"))),
		"<a><p:b xmlns:p='u'/><p:b xmlns:p='v'/></a>":                with(el("a"), of("u", el("b")), of("v", el("b"))),
		"<a:a xmlns:a='u'><a/></a:a>":                                with(of("u", el("a")), el("a")),
		"<a xmlns=' '><b/></a>":                                      with(of(" ", el("a")), of(" ", el("b"))),
		"<p:a xmlns:p=' '/>":                                         of(" ", el("a")),
		"<p:a xmlns:p='&#32;'/>":                                     of(" ", el("a")),
		"<a xmlns='&lt;&quot;&#65;'/>":                               of("<\"A", el("a")),
		"<p:a xmlns:p = '&amp;u'/>":                                  of("&u", el("a")),
		"<xml:a xmlns:xml='u'/>":                                     of("u", el("a")),
		"<xmlns/>":                                                   el("xmlns"),
		"<xmlns xmlns='u'/>":                                         of("u", el("xmlns")),
		"<p:xmlns xmlns:p='u'></p:xmlns>":                            of("u", el("xmlns")),
		"<_.-1:_.-2 xmlns:_.-1='u'/>":                                of("u", el("_.-2")),
		"<a xmlns='xmlns' xmlns:p='xml'><p:b/></a>":                  with(of("xmlns", el("a")), of("xml", el("b"))),
	} {
		reads(t, s, want)
		agrees(t, s)
	}
}

// P13.1: the names of attributes, and those that aren't told.
func TestAttributes(t *testing.T) {
	for s, want := range map[string]api.Elem{
		"<a xmlns:p='u' p:x='1'/>":                           el("a", "x", "1"),
		"<a p:x='1' xmlns:p='u'/>":                           el("a", "x", "1"),
		"<a p:z='1' y='2' xmlns:p='u' q:x='3' xmlns:q='v'/>": el("a", "x", "3", "y", "2", "z", "1"),
		"<a xmlns='u' x='1'/>":                               of("u", el("a", "x", "1")),
		"<a xmlns:p='u'><b p:x='1'/></a>":                    with(el("a"), el("b", "x", "1")),
		"<a xmlns:x='u' x='1'/>":                             el("a", "x", "1"),
		"<a x='1' xmlns:x='u'/>":                             el("a", "x", "1"),
		"<a xmlns:x='u' x:x='1'/>":                           el("a", "x", "1"),
		"<a xmlns:x='u' xmlns:p='v' p:x='1'/>":               el("a", "x", "1"),
		"<x:x xmlns:x='u' x:x='1'/>":                         of("u", el("x", "x", "1")),
		"<a xmlns='u' xmlns:p='v' xmlns:q='w'/>":             of("u", el("a")),
		"<a x='1' X='2' xx='3' x.='4' x-='5' x_='6'/>":       el("a", "X", "2", "x", "1", "x-", "5", "x.", "4", "x_", "6", "xx", "3"),
		"<a xmlnsx='1' Xmlns='2' xml='3' _xmlns='4'/>":       el("a", "Xmlns", "2", "_xmlns", "4", "xml", "3", "xmlnsx", "1"),
		"<a x='1'><b x='2'/><b x='3'/></a>":                  with(el("a", "x", "1"), el("b", "x", "2"), el("b", "x", "3")),
		"<a xmlns:xml='u' xml:lang='en'/>":                   el("a", "lang", "en"),
	} {
		reads(t, s, want)
		agrees(t, s)
	}
}

// P13.1: what may not be of prefixes and of attributes' names.
func TestWrongNames(t *testing.T) {
	for _, s := range []string{
		"<p:a/>", "<p:a></p:a>", "<p:a xmlns='u'/>", "<p:a xmlns:q='u'/>", "<p:a xmlns:P='u'/>", "<a><p:b/></a>", "<a p:x='1'/>", "<a xmlns='u' p:x='1'/>", "<a xml:lang='en'/>", "<xml:a/>",
		"<a><b xmlns:p='u'/><p:c/></a>", "<a><b xmlns:p='u'></b><p:c/></a>", "<a><b xmlns:p='u'><p:c/></b><c p:x='1'/></a>", "<a><p:b><c xmlns:p='u'/></p:b></a>",
		"<a xmlns:p=''/>", "<p:a xmlns:p=''/>", "<p:a xmlns:p='u'><b xmlns:p=''/></p:a>",
		"<a xmlns:xmlns='u'/>", "<a xmlns:xmlns=''/>", "<xmlns:a xmlns:xmlns='u'/>", "<xmlns:a/>", "<xmlns:a xmlns='u'/>", "<xmlns:xmlns/>", "<a xmlns:p='u' p:xmlns='1'/>", "<a xmlns:p='u' p:xmlns=''/>", "<a p:xmlns='1'/>", "<a><b xmlns:xmlns='u'/></a>",
		"<a x='1' x='1'/>", "<a x='1' x='2'/>", "<a x='1' y='2' x='3'/>", "<a xmlns='u' xmlns='u'/>", "<a xmlns='u' xmlns='v'/>", "<a xmlns='' xmlns=''/>", "<a xmlns:p='u' xmlns:p='u'/>", "<a xmlns:p='u' xmlns:p='v'/>", "<a xmlns:p='u' p:x='1' p:x='2'/>",
		"<a xmlns:p='u' x='1' p:x='2'/>", "<a xmlns:p='u' p:x='1' x='2'/>", "<a xmlns:p='u' xmlns:q='v' p:x='1' q:x='1'/>", "<a xmlns:p='u' p:x='1' y='2' x='3'/>", "<a xmlns:p='u' xmlns='u' x='1' p:x='2'/>", "<a xmlns:x='u' x:x='1' x='2'/>",
		"<p:a xmlns:p='u'></a>", "<p:a xmlns:p='u'></q:a>", "<p:a xmlns:p='u' xmlns:q='u'></q:a>", "<a xmlns='u' xmlns:p='u'></p:a>", "<p:a xmlns:p='u'></p:b>", "<p:a xmlns:p='u'></p :a>", "<p:a xmlns:p='u'></p: a>", "<p:a xmlns:p='u'></pa>", "<p:a xmlns:p='u'></p>",
		"<:a/>", "<a:/>", "<:/>", "<a:b:c/>", "<a: b/>", "<a :b/>", "<p::a xmlns:p='u'/>", "<p:1 xmlns:p='u'/>", "<1:a/>", "<-:a/>", "<a :x='1'/>", "<a x:='1'/>", "<a xmlns:='u'/>", "<a :xmlns='u'/>", "<a xmlns:1='u'/>", "<a xmlns:p:q='u'/>", "<a xmlns:p='u' p:q:x='1'/>", "<a xmlns:p='u' p:='1'/>", "<a xmlns :p='u'/>",
	} {
		refuses(t, s, api.ErrForm)
		agrees(t, s)
	}
}
