package xml_test

import (
	"strings"
	"testing"

	"tabulary/api"
	"tabulary/xml"
)

// P13.1: tags, attributes and ends that may not be.
func TestWrongTags(t *testing.T) {
	for _, s := range []string{
		"<a", "<a ", "<a/", "<a /", "<a>", "<a><", "<a></", "<a></a", "<a></a ", "<a>x", "<a> ", "<a><b/>", "<a><b>", "<a><b></b>", "<a><b></a>", "<a><b></a></b>", "<a><b/></b>",
		"< a/>", "<\na/>", "<a / >", "<a/ >", "<a//>", "<a/>/", "<a>>", "<a/>>", "<>", "</>", "<></>", "<1/>", "<-a/>", "<.a/>", "<a,b/>", "<a!/>", "<a<b/></a>", "<a<>", "<\"a\"/>", "<a\"/>", "<&a;/>", "<a&lt;/>",
		"<a></b>", "<a></A>", "<A></a>", "<a></aa>", "<aa></a>", "<a></>", "<a></ a>", "<a></a x>", "<a></a x='1'>", "<a></a/>", "<a></a /></a>", "<a></a></a>", "<a></\na>", "< /a>", "<a>< /a>", "<a></a<", "<a></a&gt;",
		"<a x/>", "<a x />", "<a x></a>", "<a x=/>", "<a x= />", "<a x=1/>", "<a x=1></a>", "<a x=\"1/>", "<a x='1/>", "<a x='1\"/>", "<a x=\"1'/>", "<a x=1'/>", "<a x='1'y='2'/>", "<a x='1'\"\"/>", "<a x=''''/>", "<a x='''/>", "<a x='1' '2'/>", "<a ='1'/>", "<a '1'/>", "<a x=='1'/>", "<a x:='1'/>", "<ax='1'/>", "<a x,y='1'/>", "<a 1x='1'/>", "<a -x='1'/>", "<a /x='1'>", "<a x/='1'>", "<a x='1' /y='2'>", "<a x='1'/y='2'>", "<a x='1', y='2'/>", "<a x=&quot;1&quot;/>", "<a x=`1`/>", "<a &#120;='1'/>",
		"<a x='<'/>", "<a x=\"<\"/>", "<a x='<b/>'/>", "<a x='1<'></a>", "<a x='<![CDATA[1]]>'/>", "<a x='1'<b/></a>", "<a <b/></a>", "<a <!-- --> x='1'/>", "<a <!-- -->/>", "<a<!-- -->/>", "<a><b</a>",
		"<a></a <!-- -->>",
		"<a><!></a>", "<a><!-></a>", "<a><!--></a>", "<a><!---></a>", "<a><!--></a>-->", "<a><!-- x</a>", "<a><!-- x --</a>", "<a><!-- x -</a>", "<a><!-- -- --></a>", "<a><!----- --></a>", "<a><!-----></a>", "<a><!-- x ---></a>", "<a><!-- x -- ></a>", "<a><! -- x --></a>", "<a><!-- --></a>--></a>--",
		"<a><![CDATA[</a>", "<a><![CDATA[x]]</a>", "<a><![CDATA[x]>]</a>", "<a><![CDATA[x]] ></a>", "<a><![CDATA x]]></a>", "<a><![CDATA]]></a>", "<a><![cdata[x]]></a>", "<a><! [CDATA[x]]></a>", "<a><![ CDATA[x]]></a>", "<a><[CDATA[x]]></a>", "<a><![CDATA [x]]></a>", "<a><![CDATA[]]", "<a><![CDATA[",
		"<a><?x?></a>", "<a><??></a>", "<a><?xml ?></a>", "<a><!DOCTYPE a></a>", "<a><!ELEMENT a></a>",
	} {
		refuses(t, s, api.ErrForm)
		agrees(t, s)
	}
}

// P13.1: each byte in each place where a text stands; others than signs may be
// nowhere.
func TestSigns(t *testing.T) {
	for i := range 256 {
		s := string([]byte{byte(i)})
		may := i >= 32 && i <= 126 || i == 9 || i == 10 || i == 13
		for _, doc := range []string{"<?xml ~?> <!--~--> <a/>", "<a>x~</a>", "<a><![CDATA[x~]]></a>", "<a><!--~--></a>", "<a x='~'/>", "<a x=\"~\"/>", "<a/>~", "~<a/>", "<a~/>", "<a ~/>", "<a/~>", "<~/>", "<a></a~>", "<a x~='1'/>", "<a x=~'1'/>", "<a xmlns='~'/>", "<a>&~;</a>", "<a>&#~;</a>", "<a>&#x~;</a>", "<a~x='1'/>", "<a x='1'~/>", "<a x='1'~y='1'/>", "<a~a></a~a>", "<a><~b/></a>", "<a><!~-x--></a>", "<a><b/>~<b/></a>"} {
			doc = strings.ReplaceAll(doc, "~", s)
			if e := agrees(t, doc); !may && e != api.ErrForm {
				t.Errorf("Parse(%s): %d", short(doc), e)
			}
		}
	}
}

// everyText tells all texts of so many of these parts.
func everyText(parts []string, n int, tell func(string)) {
	tell("")
	if n == 0 {
		return
	}
	for _, part := range parts {
		everyText(parts, n-1, func(s string) { tell(part + s) })
	}
}

// P13.1: all short texts of the signs that a tag, an entity, a comment and so on
// are made of.
func TestEveryShortText(t *testing.T) {
	for _, c := range []struct {
		ahead, behind string
		parts         []string
		most          int
	}{
		{"<a", "", []string{" ", "x", "=", "'", "/", ">"}, 6},
		{"<a x='1'", "/>", []string{" ", "y", "=", "'", "\""}, 5},
		{"<a>", "</a>", []string{"&", "#", "x", "4", "1", ";"}, 5},
		{"<a>", "</a>", []string{"<!--", "-", ">", " "}, 6},
		{"<a>", "</a>", []string{"<![CDATA[", "]", ">", " ", "<b/>"}, 5},
		{"<a>", "</a>", []string{"<", "/", "a", ">", "b", " "}, 5},
		{"", "", []string{"<?xml ", "?", ">", " ", "<a/>"}, 5},
		{"", "", []string{"<a/>", "<!--", "-->", " ", "x", "<a>", "</a>"}, 4},
		{"<a ", "/>", []string{"xmlns", ":", "p", "='u'", "=''", " "}, 6},
		{"<p:a xmlns:p='u'", ">", []string{"</", "p", ":", "a", ">", "/"}, 6},
	} {
		everyText(c.parts, c.most, func(s string) { agrees(t, c.ahead+s+c.behind) })
	}
}

// P13.1: no beginning of a document is one.
func TestBeginnings(t *testing.T) {
	s := "<?xml version='1.0'?>\n<!-- c --><p:a xmlns:p=\"u\" z='&lt;1' b=\"2\">\n <p:b/><c>&#65;<![CDATA[<&]]>x</c > </p:a>"
	for n := range s {
		refuses(t, s[:n], api.ErrForm)
		agrees(t, s[:n])
		agrees(t, s[n:])
		agrees(t, s[:n]+s[n+1:])
	}
	if e := agrees(t, s); e != api.OK {
		t.Error(e)
	}
}

// P13.1: a text that is handed in stays as it was, and two answers share nothing.
func TestAnswersShareNothing(t *testing.T) {
	s := "<a x='1' y='2'><b x='1'/><b x='1'/></a>"
	first, _ := xml.Parse(s)
	first.Attrs[0].Value = "9"
	first.Kids[0].Attrs[0].Value = "9"
	first.Kids[0].Name = "z"
	first.Kids[0].Kids = append(first.Kids[0].Kids, el("c"))
	_ = append(first.Kids[:1], el("d"))
	reads(t, s, with(el("a", "x", "1", "y", "2"), el("b", "x", "1"), el("b", "x", "1")))
}
