package xml_test

import (
	"maps"
	"regexp"
	"slices"
	"strconv"
	"strings"
	"testing"

	"tabulary/api"
	"tabulary/xml"
)

// What the package should answer, reckoned apart from it, as the chapter's words
// have it: documents by expressions and a list of open elements.

const (
	aName    = `[A-Za-z_][A-Za-z0-9_.\-]{0,31}`
	aWritten = `(?:` + aName + `:)?` + aName
	aBlank   = `[ \t\n\r]`
	aValue   = `(?:"[^"<]*"|'[^'<]*')`
	anAttr   = aBlank + `+(` + aWritten + `)` + aBlank + `*=` + aBlank + `*(` + aValue + `)`
)

var (
	rightName    = regexp.MustCompile(`\A` + aName + `\z`)
	rightHead    = regexp.MustCompile(`\A<\?xml [^<>]*\?>`)
	rightBetween = regexp.MustCompile(`\A(?:` + aBlank + `|<!--(?:[^\-]|-[^\-])*-->)*`)
	rightComment = regexp.MustCompile(`\A<!--(?:[^\-]|-[^\-])*-->`)
	rightCdata   = regexp.MustCompile(`(?s)\A<!\[CDATA\[(.*?)\]\]>`)
	rightTag     = regexp.MustCompile(`\A<(` + aWritten + `)((?:` + anAttr + `)*)` + aBlank + `*(/?)>`)
	rightEnd     = regexp.MustCompile(`\A</(` + aWritten + `)` + aBlank + `*>`)
	rightText    = regexp.MustCompile(`\A[^<]+`)
	rightAttr    = regexp.MustCompile(anAttr)
	rightEntity  = regexp.MustCompile(`&(?:(lt|gt|amp|quot|apos)|#([0-9]{1,8})|#x([0-9A-F]{1,8}));`)
	otherSign    = regexp.MustCompile(`(?s)[^ -~\t\n\r]`)
)

// frame is an element whose end tag didn't come yet.
type frame struct {
	as     string // its name as it was written
	elem   api.Elem
	text   string
	solid  bool
	spaces map[string]string
}

// model reads a document, part by part.
type model struct {
	rest string
	open []frame
	root *api.Elem
}

// parsed answers what Parse should.
func parsed(s string) (api.Elem, api.Errno) {
	if len(s) > 16384 {
		return api.Elem{}, api.ErrLen
	}
	if otherSign.MatchString(s) {
		return api.Elem{}, api.ErrForm
	}
	if strings.HasPrefix(s, "<?xml ") && !rightHead.MatchString(s) {
		return api.Elem{}, api.ErrForm
	}
	m := model{rest: rightHead.ReplaceAllString(s, "")}
	m.rest = rightBetween.ReplaceAllString(m.rest, "")
	for m.root == nil {
		if e := m.step(); e != api.OK {
			return api.Elem{}, e
		}
	}
	if rightBetween.ReplaceAllString(m.rest, "") != "" {
		return api.Elem{}, api.ErrForm
	}
	return *m.root, api.OK
}

// cut takes off what an expression says of the beginning, and answers its parts.
func (m *model) cut(r *regexp.Regexp) []string {
	l := r.FindStringSubmatch(m.rest)
	if l != nil {
		m.rest = m.rest[len(l[0]):]
	}
	return l
}

// step takes the next part.
func (m *model) step() api.Errno {
	begins := func(s string) bool { return strings.HasPrefix(m.rest, s) }
	tag := begins("<") && !begins("</") && !begins("<!--") && !begins("<![CDATA[")
	if tag || len(m.open) == 0 {
		return m.tag()
	}
	in := &m.open[len(m.open)-1]
	if m.cut(rightComment) != nil {
		return api.OK
	}
	if l := m.cut(rightCdata); l != nil {
		in.text += l[1]
		in.solid = in.solid || len(l[1]) > 0
		return api.OK
	}
	if l := m.cut(rightText); l != nil {
		text, ok := plain(l[0])
		in.text += text
		in.solid = in.solid || len(strings.Fields(l[0])) > 0
		return form(ok)
	}
	if l := m.cut(rightEnd); l != nil && l[1] == in.as {
		return m.close()
	}
	return api.ErrForm
}

// form answers ErrForm, if something isn't as it should be.
func form(ok bool) api.Errno {
	if ok {
		return api.OK
	}
	return api.ErrForm
}

// close ends the innermost element.
func (m *model) close() api.Errno {
	in := m.open[len(m.open)-1]
	m.open = m.open[:len(m.open)-1]
	if in.solid {
		if in.elem.Kids != nil {
			return api.ErrForm
		}
		in.elem.Text = in.text
	}
	if len(m.open) == 0 {
		m.root = &in.elem
		return api.OK
	}
	up := &m.open[len(m.open)-1].elem
	up.Kids = append(up.Kids, in.elem)
	if len(up.Kids) > 256 {
		return api.ErrLen
	}
	return api.OK
}

// tag begins an element.
func (m *model) tag() api.Errno {
	if len(m.open) >= 16 {
		return api.ErrDeep
	}
	l := m.cut(rightTag)
	if l == nil {
		return api.ErrForm
	}
	f := frame{as: l[1], spaces: map[string]string{"": ""}}
	if len(m.open) > 0 {
		f.spaces = maps.Clone(m.open[len(m.open)-1].spaces)
	}
	if !f.attrs(l[2]) {
		return api.ErrForm
	}
	prefix, name := split(l[1])
	space, ok := f.spaces[prefix]
	if !ok {
		return api.ErrForm
	}
	f.elem.Space, f.elem.Name = space, name
	m.open = append(m.open, f)
	if l[len(l)-1] == "/" {
		return m.close()
	}
	return api.OK
}

// split answers a written name's prefix and name.
func split(s string) (string, string) {
	if prefix, name, found := strings.Cut(s, ":"); found {
		return prefix, name
	}
	return "", s
}

// attrs takes the attributes of a tag, as they are written.
func (f *frame) attrs(s string) bool {
	values, used := map[string]string{}, map[string]bool{}
	l := rightAttr.FindAllStringSubmatch(s, -1)
	for _, a := range l {
		value, ok := plain(a[2][1 : len(a[2])-1])
		if _, twice := values[a[1]]; twice || !ok {
			return false
		}
		values[a[1]] = value
		prefix, name := split(a[1])
		if prefix != "" && name == "xmlns" || prefix == "xmlns" && value == "" {
			return false
		}
		if prefix == "xmlns" {
			f.spaces[name] = value
		} else if name == "xmlns" {
			f.spaces[""] = value
		}
	}
	for as, value := range values {
		prefix, name := split(as)
		if prefix == "xmlns" || name == "xmlns" {
			continue
		}
		if _, ok := f.spaces[prefix]; !ok || used[name] {
			return false
		}
		used[name] = true
		f.elem.Attrs = append(f.elem.Attrs, api.Attr{Name: name, Value: value})
	}
	slices.SortFunc(f.elem.Attrs, func(a, b api.Attr) int { return strings.Compare(a.Name, b.Name) })
	return len(l) <= 32
}

// plain answers a text whose entities were read.
func plain(s string) (string, bool) {
	names := map[string]string{"lt": "<", "gt": ">", "amp": "&", "quot": "\"", "apos": "'"}
	all := true
	out := rightEntity.ReplaceAllStringFunc(s, func(as string) string {
		l := rightEntity.FindStringSubmatch(as)
		if l[1] != "" {
			return names[l[1]]
		}
		n, err := strconv.ParseInt(l[2]+l[3], map[bool]int{true: 10, false: 16}[l[2] != ""], 64)
		if err != nil || n > 126 || otherSign.MatchString(string(rune(n))) {
			all = false
		}
		return string(rune(n))
	})
	return out, all && !strings.Contains(rightEntity.ReplaceAllString(s, ""), "&")
}

// written answers what Text should, of an element in one of a namespace.
func written(e api.Elem, around string) string {
	s := "<" + e.Name
	if e.Space != around {
		s += ` xmlns="` + escaped(e.Space) + `"`
	}
	for _, a := range e.Attrs {
		s += " " + a.Name + `="` + escaped(a.Value) + `"`
	}
	if e.Text+strings.Repeat("x", len(e.Kids)) == "" {
		return s + "/>"
	}
	s += ">" + escaped(e.Text)
	for _, kid := range e.Kids {
		s += written(kid, e.Space)
	}
	return s + "</" + e.Name + ">"
}

// escaped answers a text as it is written.
func escaped(s string) string {
	if strings.Count(s, " ") == len(s) {
		return strings.ReplaceAll(s, " ", "&#32;")
	}
	for _, c := range []string{"&&amp;", "<&lt;", ">&gt;", "\"&quot;", "\r&#13;", "\n&#10;", "\t&#9;"} {
		s = strings.ReplaceAll(s, c[:1], c[1:])
	}
	return s
}

// same tells whether two elements are alike in all.
func same(a, b api.Elem) bool {
	return a.Space == b.Space && a.Name == b.Name && a.Text == b.Text &&
		slices.Equal(a.Attrs, b.Attrs) && slices.EqualFunc(a.Kids, b.Kids, same)
}

// el answers an element of a name, with attributes and their values in turn.
func el(name string, attrs ...string) api.Elem {
	e := api.Elem{Name: name}
	for i := 0; i < len(attrs); i += 2 {
		e.Attrs = append(e.Attrs, api.Attr{Name: attrs[i], Value: attrs[i+1]})
	}
	return e
}

// with answers e with elements in it.
func with(e api.Elem, kids ...api.Elem) api.Elem {
	e.Kids = kids
	return e
}

// saying answers e with a text.
func saying(e api.Elem, text string) api.Elem {
	e.Text = text
	return e
}

// of answers e in a namespace.
func of(space string, e api.Elem) api.Elem {
	e.Space = space
	return e
}

// short answers a text as it is told when a test fails.
func short(s string) string {
	if len(s) > 200 {
		s = s[:200] + "... (" + strconv.Itoa(len(s)) + ")"
	}
	return strconv.Quote(s)
}

// reads fails the test unless a document is read as this element.
func reads(t *testing.T, s string, want api.Elem) {
	t.Helper()
	if got, e := xml.Parse(s); e != api.OK || !same(got, want) {
		t.Errorf("Parse(%s): %+v, %d, want %+v", short(s), got, e, want)
	}
}

// refuses fails the test unless a text is refused with this error.
func refuses(t *testing.T, s string, want api.Errno) {
	t.Helper()
	if got, e := xml.Parse(s); e != want || !same(got, api.Elem{}) {
		t.Errorf("Parse(%s): %+v, %d, want %d", short(s), got, e, want)
	}
}

// agrees fails the test unless Parse answers what the model does, which is
// answered.
func agrees(t *testing.T, s string) api.Errno {
	t.Helper()
	want, e := parsed(s)
	if e != api.OK {
		want = api.Elem{}
	}
	if got, f := xml.Parse(s); e != f || !same(got, want) {
		t.Fatalf("Parse(%s): %+v, %d, want %+v, %d", short(s), got, f, want, e)
	}
	return e
}
