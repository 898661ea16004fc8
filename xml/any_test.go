package xml_test

import (
	"math/rand"
	"strings"
	"testing"

	"tabulary/api"
	"tabulary/xml"
)

// A maker writes documents in all the ways that there are.
type maker struct {
	*rand.Rand
}

// one answers one of these.
func (m maker) one(l ...string) string {
	return l[m.Intn(len(l))]
}

// some answers up to n of what a function answers.
func (m maker) some(n int, f func() string) string {
	s := ""
	for range m.Intn(n + 1) {
		s += f()
	}
	return s
}

// gap answers blanks, perhaps none.
func (m maker) gap() string {
	return m.one("", "", "", " ", "\n", "\t ", "\r\n")
}

// around answers blanks and comments.
func (m maker) around() string {
	return m.some(2, func() string { return m.one(" ", "\n", m.comment()) })
}

// comment answers a comment.
func (m maker) comment() string {
	return m.one("<!---->", "<!-- x -->", "<!-- - <a> &x; ]]> -->", "<!--->-->")
}

// piece answers a piece of a text, as it is written.
func (m maker) piece() string {
	return m.one(" ", "\n", "x", "1", ">", "]]>", "'", "\"", "-", "/", "=", "&lt;", "&amp;", "&quot;", "&apos;", "&gt;", "&#32;", "&#65;", "&#x4A;", "&#00000010;", "&#xD;")
}

// value answers an attribute's value in quotes.
func (m maker) value() string {
	s := m.some(3, m.piece)
	if m.Intn(2) == 0 {
		return "'" + strings.ReplaceAll(s, "'", "\"") + "'"
	}
	return `"` + strings.ReplaceAll(s, `"`, "'") + `"`
}

// attr answers an attribute, which may have one of these prefixes.
func (m maker) attr(prefixes []string) string {
	name := m.one("x", "y", "z-1", "_.", "xml", "p", "q")
	if m.Intn(4) == 0 && len(prefixes) > 0 {
		name = m.one(prefixes...) + ":" + name
	}
	return m.one(" ", "\n", "\t ") + name + m.gap() + "=" + m.gap() + m.value()
}

// element answers an element of so many levels at most, in one that says what
// these prefixes are.
func (m maker) element(levels int, prefixes []string) string {
	said := ""
	for _, p := range []string{"p", "q", "r"} {
		if m.Intn(8) == 0 {
			prefixes = append(prefixes[:len(prefixes):len(prefixes)], p)
			said += m.one(" ", "\n") + "xmlns:" + p + m.gap() + "=" + m.one("'u'", "\"v\"", "'&lt;'")
		}
	}
	if m.Intn(8) == 0 {
		said += " xmlns=" + m.one("'u'", "''", "\"v\"")
	}
	name := m.one("a", "b", "c-d", "_", "xmlns")
	if m.Intn(3) == 0 && len(prefixes) > 0 {
		name = m.one(prefixes...) + ":" + name
	}
	s := "<" + name + said + m.some(2, func() string { return m.attr(prefixes) }) + m.gap()
	if m.Intn(5) == 0 {
		return s + "/>"
	}
	return s + ">" + m.inside(levels, prefixes) + "</" + name + m.gap() + ">"
}

// inside answers what stands in an element.
func (m maker) inside(levels int, prefixes []string) string {
	part := func() string {
		return m.one(m.comment(), "<![CDATA["+m.one("", "", " ", "x", "<a>&x;]]")+"]]>", m.piece(), m.piece())
	}
	if levels > 1 && m.Intn(4) > 0 {
		part = func() string {
			if m.Intn(30) == 0 {
				return m.one("x", "&#32;", "<![CDATA[ ]]>")
			}
			if m.Intn(3) == 0 {
				return m.one(m.around(), "<![CDATA[]]>")
			}
			return m.element(levels-1, prefixes)
		}
	}
	return m.some(4, part)
}

// document answers a document that may be, or nearly: what is in it is right but
// for attributes of one name and texts beside elements.
func (m maker) document() string {
	head := m.one("", "", "<?xml ?>", "<?xml version='1.0'?>", "<?xml x? ?>")
	return head + m.around() + m.element(1+m.Intn(5), nil) + m.around()
}

// turned answers a text in which something was put in, taken out, said again or
// written over.
func (m maker) turned(s string) string {
	from := m.Intn(len(s) + 1)
	to := min(from+m.Intn(6), len(s))
	at := m.Intn(len(s) + 1)
	switch m.Intn(6) {
	case 0:
		return s[:from] + s[to:]
	case 1:
		return s[:at] + s[from:to] + s[at:]
	case 2:
		return s[:from] + string([]byte{byte(m.Intn(256))}) + s[to:]
	}
	if m.Intn(6) == 0 {
		at = strings.LastIndex(s[:at], ">") + 1
		return s[:at] + m.one(strings.Repeat("<a>", 12), strings.Repeat("<a>", 15), strings.Repeat("<b/>", 255), strings.Repeat("<b/> ", 256), strings.Repeat("<b/>", 257)) + s[at:]
	}
	part := m.one("<", ">", "/", "&", ";", "#", "</", "/>", "<!--", "-->", "--", "-", "<![CDATA[", "]]>", "\"", "'", "=", " ", ":", "p:", "xmlns", " xmlns='u'", " xmlns:p='u'", " xmlns:q=''", " x='1'", " p:x='1'",
		"<?xml ", "?>", "<a/>", "<a>", "</a>", "<p:a/>", "&lt;", "&#65;", "&#x4a;", "x", "\x80", "\x00", strings.Repeat("y", 31))
	return s[:at] + part + s[at:]
}

// P13.1: documents of all kinds, and what comes of them by some changes.
func TestAnyDocument(t *testing.T) {
	m := maker{rand.New(rand.NewSource(15))}
	came := map[api.Errno]int{}
	for range 30000 {
		s := m.document()
		came[agrees(t, s)]++
		for range 1 + m.Intn(3) {
			s = m.turned(s)
			came[agrees(t, s)]++
		}
	}
	for _, e := range []api.Errno{api.OK, api.ErrForm, api.ErrDeep, api.ErrLen} {
		if came[e] < 200 {
			t.Errorf("the test's own documents: %v", came)
		}
	}
}

// P0: what is no document at all.
func TestAnyBytes(t *testing.T) {
	m := maker{rand.New(rand.NewSource(16))}
	for range 20000 {
		b := make([]byte, m.Intn(40))
		m.Read(b)
		if e := agrees(t, string(b)); e != api.ErrForm {
			t.Fatal(short(string(b)), e)
		}
		agrees(t, m.some(12, func() string { return m.turned("") }))
		e := api.Elem{Space: string(b), Name: string(b), Text: string(b), Attrs: []api.Attr{{Name: string(b), Value: string(b)}}}
		if got := xml.Text(with(e, e, e)); got != written(with(e, e, e), "") {
			t.Fatal(short(got))
		}
		if xml.Name(string(b)) != rightName.Match(b) {
			t.Fatal(short(string(b)))
		}
	}
}
