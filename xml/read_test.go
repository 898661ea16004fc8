package xml_test

import (
	"strconv"
	"strings"
	"testing"

	"tabulary/api"
)

// P13.1: the chapter's example, and others of each of its words.
func TestParse(t *testing.T) {
	for s, want := range map[string]api.Elem{
		"<a x='1'> <b/> </a>":                with(el("a", "x", "1"), el("b")),
		"<a/>":                               el("a"),
		"<a></a>":                            el("a"),
		"<a\t/>":                             el("a"),
		"<a\r\n></a \t>":                     el("a"),
		"<a>x</a>":                           saying(el("a"), "x"),
		"<a> x\r\n\ty </a>":                  saying(el("a"), " x\r\n\ty "),
		"<a>]]></a>":                         saying(el("a"), "]]>"),
		"<a>-->'\"=/>?></a>":                 saying(el("a"), "-->'\"=/>?>"),
		"<a><b/><c/><b/></a>":                with(el("a"), el("b"), el("c"), el("b")),
		"<a><a><a>1</a></a>\n<a>2</a></a>":   with(el("a"), with(el("a"), saying(el("a"), "1")), saying(el("a"), "2")),
		"<a><b> </b> <c>1</c>\t</a>":         with(el("a"), el("b"), saying(el("c"), "1")),
		"<a.b><c-d/></a.b>":                  with(el("a.b"), el("c-d")),
		"<a b='1' a='2' c='3' B='4' _='5'/>": el("a", "B", "4", "_", "5", "a", "2", "b", "1", "c", "3"),
		"<a x=\"it's\" y='\"'/>":             el("a", "x", "it's", "y", "\""),
		"<a x=''\ny=\"\"/>":                  el("a", "x", "", "y", ""),
		"<a x\t=\r\n'1'  y=\n \"2\" ></a>":   el("a", "x", "1", "y", "2"),
		"<a x=' a\t\n\r b '/>":               el("a", "x", " a\t\n\r b "),
		"<a x='>' y='/>' z='-->]]>'/>":       el("a", "x", ">", "y", "/>", "z", "-->]]>"),
		"<a x='&lt;&gt;&amp;&quot;&apos;&#65;'>&#x42;&lt;</a>": saying(el("a", "x", "<>&\"'A"), "B<"),
	} {
		reads(t, s, want)
		agrees(t, s)
	}
}

// P13.1: each of an element's parts, and what of them is its text.
func TestTexts(t *testing.T) {
	for s, want := range map[string]string{
		"":                                  "",
		" \t\r\n":                           "",
		"x":                                 "x",
		" x ":                               " x ",
		"<!---->":                           "",
		"<!-- x -->":                        "",
		"<!--x-->y<!-- - -->z":              "yz",
		" <!-- x --> ":                      "",
		" <!-- x --> y":                     "  y",
		"<!--->-->":                         "",
		"<!--<b>&x;]]> - -->":               "",
		"<!--\n-\t-\r-->":                   "",
		"<![CDATA[]]>":                      "",
		" <![CDATA[]]>\n":                   "",
		"<![CDATA[ ]]>":                     " ",
		"\n<![CDATA[ ]]> ":                  "\n  ",
		"<![CDATA[\t]]>":                    "\t",
		"<![CDATA[x]]>":                     "x",
		"<![CDATA[]]><![CDATA[\n]]>":        "\n",
		" <![CDATA[<b>&lt;<!-- ]] -->]]> ":  " <b>&lt;<!-- ]] --> ",
		"<![CDATA[]]]]><![CDATA[>]]>":       "]]>",
		"<![CDATA[]>]]]>":                   "]>]",
		"<![CDATA[<![CDATA[]]>":             "<![CDATA[",
		"a<![CDATA[b]]>c<!-- d -->e&#102;g": "abcefg",
		"&#32;":                             " ",
		"&#9;":                              "\t",
		" &#32;\n":                          "  \n",
		" <!-- &#32; --> ":                  "",
		"&#10;<!-- x --> &#x0D;":            "\n \r",
		"&amp;lt;":                          "&lt;",
		"&amp;&#38;&#x26;#65;":              "&&&#65;",
		"&lt;b/&gt;":                        "<b/>",
	} {
		s = "<a>" + s + "</a>"
		reads(t, s, saying(el("a"), want))
		agrees(t, s)
	}
}

// P13.1: beside elements there may be blanks, comments and empty CDATA alone.
func TestTextBesideElements(t *testing.T) {
	for _, s := range []string{"", " ", "\t\r\n ", "<!-- x -->", "<![CDATA[]]>", " <![CDATA[]]> <!-- x --> "} {
		reads(t, "<a>"+s+"<b>1</b>"+s+"<c/>"+s+"</a>", with(el("a"), saying(el("b"), "1"), el("c")))
	}
	for _, s := range []string{"x", " x", "&#32;", "&lt;", "<![CDATA[ ]]>", "<![CDATA[x]]>", " <!-- x --> x", "]]>"} {
		for _, doc := range []string{"<a>" + s + "<b/></a>", "<a><b/>" + s + "</a>", "<a><b/>" + s + "<b/></a>", "<a><b>" + s + "<c/></b></a>", "<a>\n<b/>\n" + s + "\n</a>"} {
			refuses(t, doc, api.ErrForm)
			agrees(t, doc)
		}
	}
}

// P13.1: entities of each number, written in each way, in texts and in values.
func TestEntitiesOfNumbers(t *testing.T) {
	for n := range 400 {
		for _, as := range []string{strconv.Itoa(n), pad(strconv.Itoa(n), 8), "x" + pad(upper(n), 2), "x" + upper(n), "x" + pad(upper(n), 8)} {
			sign := string(rune(n))
			doc, other := "<a>&#"+as+";</a>", "<a x='1&#"+as+";'/>"
			if n >= 32 && n <= 126 || n == 9 || n == 10 || n == 13 {
				reads(t, doc, saying(el("a"), sign))
				reads(t, other, el("a", "x", "1"+sign))
			} else {
				refuses(t, doc, api.ErrForm)
				refuses(t, other, api.ErrForm)
			}
		}
	}
}

// upper answers a number in base 16.
func upper(n int) string {
	return strings.ToUpper(strconv.FormatInt(int64(n), 16))
}

// pad answers digits with zeros ahead, n in all at least.
func pad(s string, n int) string {
	return strings.Repeat("0", max(n-len(s), 0)) + s
}

// P13.1: what is no entity.
func TestWrongEntities(t *testing.T) {
	for _, s := range []string{
		"&", "&;", "& ;", "&&", "&lt", "&lt ;", "& lt;", "&LT;", "&Lt;", "&ltt;", "&l;", "&gt&lt;", "&amp&amp;", "&nbsp;", "&x;", "&quott;", "&apo;",
		"&#;", "&#x;", "&#X41;", "&# 65;", "&#65 ;", "&#+65;", "&#-65;", "&#6_5;", "&#6.5;", "&#65", "&#65&", "&#a;", "&#4A;", "&#0x41;", "&#xx41;", "&#x+41;", "&#x4_1;", "&#x 41;", "&#xG;", "&#x4g;",
		"&#000000065;", "&#x000000041;", "&#100000065;", "&#x100000041;",
		"&#0;", "&#x0;", "&#8;", "&#11;", "&#12;", "&#14;", "&#31;", "&#127;", "&#128;", "&#255;", "&#256;", "&#265;", "&#321;", "&#65601;", "&#99999999;", "&#x7F;", "&#xFF;", "&#x141;", "&#x10041;", "&#xFFFFFFFF;", "&#xFFFFFF41;",
		"&#x4a;", "&#xa;", "&#xd;", "&#x0a;", "&#x7e;", // digits of base 16 are 0 to 9 and A to F
		"&#3<!-- -->2;", "&l<![CDATA[t;]]>", "&#x4<b/>1;",
	} {
		for _, doc := range []string{"<a>" + s + "</a>", "<a>x" + s + "y</a>", "<a>&lt;" + s + "</a>", "<a><b>" + s + "</b></a>", "<a><b/>" + s + "</a>", "<a x='" + s + "'/>", "<a x=\"1" + s + "\"></a>", "<a xmlns='" + s + "'/>", "<a xmlns:p='u" + s + "'/>", "<a><b x='" + s + "'/></a>"} {
			refuses(t, doc, api.ErrForm)
			agrees(t, doc)
		}
	}
}

// P13.1: what may stand around the element.
func TestAround(t *testing.T) {
	for _, head := range []string{"", "<?xml ?>", "<?xml version='1.0'?>", "<?xml version=\"1.0\" encoding=\"UTF-8\" ?>", "<?xml ????>", "<?xml & ' \" -- ]] \n?>", "<?xml  ?>"} {
		for _, ahead := range []string{"", " ", "\r\n\t ", "<!---->", "\n<!-- x -->\n", "<!-- <a> --><!-- &x; --> <!-- ?> -->"} {
			for _, behind := range []string{"", " \t\r\n", "<!-- x -->", "<!-- <a/> --> \n<!-- - - -->\n"} {
				reads(t, head+ahead+"<a/>"+behind, el("a"))
				reads(t, head+ahead+"<a><b>1</b></a>"+behind, with(el("a"), saying(el("b"), "1")))
				agrees(t, head+ahead+"<a/>"+behind)
			}
		}
	}
	for _, doc := range []string{
		" <?xml ?><a/>", "<!-- --><?xml ?><a/>", "<?xml?><a/>", "<?xml\t?><a/>", "<?xml\n?><a/>", "<?XML ?><a/>", "<?xmlx ?><a/>", "<? xml ?><a/>", "<?xml ?><?xml ?><a/>", "<?xml ?><?x ?><a/>", "<?x ?><a/>",
		"<?xml <a/>", "<?xml ><a/>", "<?xml >?><a/>", "<?xml <?><a/>", "<?xml x='>'?><a/>", "<?xml x='<'?><a/>", "<?xml ? ><a/>", "<?xml ", "<?xml ?>", "<?xml ?> ", "<?xml ?", "<?xm", "<?",
		"<a/><?xml ?>", "<a/><?x?>", "<a><?xml ?></a>", "<a/>x", "x<a/>", "<a/>&#32;", "&#32;<a/>", "<a/>;", "<a/><", "<a/></a>", "</a>", "</a><a/>", "<a/><a/>", "<a></a><b></b>", "<a/><![CDATA[]]>", "<![CDATA[]]><a/>", "<![CDATA[ ]]>", "<a/><!-- -- -->", "<a/><!--", "<a/><!-- -", "<a/><!-- --", "<a/><!-- x --->", "<!-- x ---><a/>", "<!--><a/>", "<!---><a/>", "<!-- <a/>", "<!- x --><a/>", "<!-- x -- ><a/>", "<!><a/>", "<!DOCTYPE a><a/>", "<!ELEMENT a><a/>",
		"", " ", "\n", "x", "<", ">", "&", "<!---->", "<!-- x -->", "<!--",
	} {
		refuses(t, doc, api.ErrForm)
		agrees(t, doc)
	}
}
