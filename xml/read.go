package xml

import (
	"strings"

	"tabulary/api"
)

// What begins the parts of an element, and what ends some of them.
const (
	endTag   = "</"
	comment  = "<!--"
	dashes   = "--"
	cdata    = "<![CDATA["
	cdataEnd = "]]>"
)

// A reader takes a document apart from the front.
type reader struct {
	rest string // what isn't read yet
	said []said // what the elements around say of prefixes, the innermost last
}

// take reads s, if it is what comes next.
func (r *reader) take(s string) bool {
	rest, found := strings.CutPrefix(r.rest, s)
	r.rest = rest
	return found
}

// until reads what stands ahead of end, and end.
func (r *reader) until(end string) (string, bool) {
	text, rest, found := strings.Cut(r.rest, end)
	r.rest = rest
	return text, found
}

// blanks reads blanks, and tells whether there were any.
func (r *reader) blanks() bool {
	before := len(r.rest)
	r.rest = strings.TrimLeft(r.rest, blanks)
	return len(r.rest) < before
}

// document reads a document, and answers its element.
func (r *reader) document() (api.Elem, api.Errno) {
	if !r.declaration() || !r.between() {
		return api.Elem{}, api.ErrForm
	}
	e, err := r.element(0)
	if err != api.OK {
		return api.Elem{}, err
	}
	if !r.between() || r.rest != "" {
		return api.Elem{}, api.ErrForm
	}
	return e, api.OK
}

// declaration reads what says that this is XML, if it is there.
func (r *reader) declaration() bool {
	if !r.take("<?xml ") {
		return true
	}
	text, found := r.until("?>")
	return found && !strings.ContainsAny(text, "<>")
}

// between reads blanks and comments.
func (r *reader) between() bool {
	for {
		r.blanks()
		if !r.take(comment) {
			return true
		}
		if !r.comment() {
			return false
		}
	}
}

// comment reads a comment behind its beginning. It ends at the first two dashes,
// or it may not be.
func (r *reader) comment() bool {
	_, found := r.until(dashes)
	return found && r.take(">")
}

// element reads an element that stands in depth others.
func (r *reader) element(depth int) (api.Elem, api.Errno) {
	if depth == api.MaxDepth {
		return api.Elem{}, api.ErrDeep
	}
	around := len(r.said)
	t, ok := r.tag()
	if !ok {
		return api.Elem{}, api.ErrForm
	}
	e, ok := r.begin(t)
	if !ok {
		return api.Elem{}, api.ErrForm
	}
	if !t.empty {
		text, kids, err := r.content(t.name, depth+1)
		if err != api.OK {
			return api.Elem{}, err
		}
		e.Text, e.Kids = text, kids
	}
	r.said = r.said[:around]
	return e, api.OK
}

// A content is what stands in an element, as far as it was read.
type content struct {
	text  strings.Builder
	solid bool // whether the text is more than blanks around elements
	kids  []api.Elem
}

// content reads what stands in the element of a name, and its end tag. The
// parts of it stand in depth elements.
func (r *reader) content(name written, depth int) (string, []api.Elem, api.Errno) {
	var c content
	for !r.take(endTag) {
		if e := r.part(&c, depth); e != api.OK {
			return "", nil, e
		}
	}
	switch {
	case !r.end(name):
		return "", nil, api.ErrForm
	case !c.solid:
		return "", c.kids, api.OK
	case len(c.kids) > 0:
		return "", nil, api.ErrForm
	}
	return c.text.String(), nil, api.OK
}

// part reads the next part of what stands in an element.
func (r *reader) part(c *content, depth int) api.Errno {
	ok := false
	switch {
	case r.take(comment):
		ok = r.comment()
	case r.take(cdata):
		ok = r.cdata(c)
	case strings.HasPrefix(r.rest, "<"):
		return r.kid(c, depth)
	default:
		ok = r.text(c)
	}
	if !ok {
		return api.ErrForm
	}
	return api.OK
}

// cdata reads CDATA behind its beginning.
func (r *reader) cdata(c *content) bool {
	text, found := r.until(cdataEnd)
	c.text.WriteString(text)
	c.solid = c.solid || text != ""
	return found
}

// kid reads an element in another one.
func (r *reader) kid(c *content, depth int) api.Errno {
	e, err := r.element(depth)
	if err != api.OK {
		return err
	}
	if len(c.kids) == api.MaxKids {
		return api.ErrLen
	}
	c.kids = append(c.kids, e)
	return api.OK
}

// text reads a text up to the next <, which must be there.
func (r *reader) text(c *content) bool {
	n := strings.IndexByte(r.rest, '<')
	if n < 0 {
		return false
	}
	as := r.rest[:n]
	r.rest = r.rest[n:]
	text, ok := readEntities(as)
	c.text.WriteString(text)
	c.solid = c.solid || !blank(as)
	return ok
}
