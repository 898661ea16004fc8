package xml

import (
	"slices"
	"strings"

	"tabulary/api"
)

// xmlns is the name, or the prefix, of attributes that say a namespace.
const xmlns = "xmlns"

// A written name is a name with a prefix; "" is none.
type written struct {
	prefix, name string
}

// An attribute as a tag has it.
type attribute struct {
	name  written
	value string
}

// A tag begins an element.
type tag struct {
	name  written
	attrs []attribute
	empty bool // whether it ends the element, too
}

// name reads a name.
func (r *reader) name() (string, bool) {
	rest := strings.TrimLeftFunc(r.rest, inName)
	name := r.rest[:len(r.rest)-len(rest)]
	r.rest = rest
	return name, Name(name)
}

// written reads a name with a prefix.
func (r *reader) written() (written, bool) {
	name, ok := r.name()
	if !ok || !r.take(":") {
		return written{name: name}, ok
	}
	behind, ok := r.name()
	return written{prefix: name, name: behind}, ok
}

// tag reads a tag.
func (r *reader) tag() (tag, bool) {
	if !r.take("<") {
		return tag{}, false
	}
	name, ok := r.written()
	t := tag{name: name}
	for ok {
		apart := r.blanks()
		switch {
		case r.take(">"):
			return t, true
		case r.take("/>"):
			t.empty = true
			return t, true
		}
		ok = apart && r.attribute(&t)
	}
	return tag{}, false
}

// attribute reads one more attribute of a tag.
func (r *reader) attribute(t *tag) bool {
	name, ok := r.written()
	if !ok || t.has(name) || len(t.attrs) == api.MaxList {
		return false
	}
	r.blanks()
	if !r.take("=") {
		return false
	}
	r.blanks()
	value, ok := r.value()
	t.attrs = append(t.attrs, attribute{name: name, value: value})
	return ok
}

// has tells whether a tag has an attribute that is written like this.
func (t *tag) has(name written) bool {
	for _, a := range t.attrs {
		if a.name == name {
			return true
		}
	}
	return false
}

// value reads an attribute's value, with what stands around it.
func (r *reader) value() (string, bool) {
	quote := `"`
	if !r.take(quote) {
		quote = "'"
		if !r.take(quote) {
			return "", false
		}
	}
	text, found := r.until(quote)
	if !found || strings.Contains(text, "<") {
		return "", false
	}
	return readEntities(text)
}

// end reads an end tag behind its beginning; the name must be written as it was
// in the tag.
func (r *reader) end(name written) bool {
	n, ok := r.written()
	r.blanks()
	return ok && n == name && r.take(">")
}

// said is the namespace that a prefix stands for.
type said struct {
	prefix, space string
}

// begin answers an element as its tag tells it; what that says of prefixes holds
// from now on.
func (r *reader) begin(t tag) (api.Elem, bool) {
	for _, a := range t.attrs {
		if !r.hear(a) {
			return api.Elem{}, false
		}
	}
	space, ok := r.space(t.name.prefix)
	if !ok {
		return api.Elem{}, false
	}
	attrs, ok := r.attrs(t)
	if !ok {
		return api.Elem{}, false
	}
	return api.Elem{Space: space, Name: t.name.name, Attrs: attrs}, true
}

// hear keeps what an attribute says of a prefix, if it does; it tells whether
// the attribute may be.
func (r *reader) hear(a attribute) bool {
	switch {
	case a.name == written{name: xmlns}:
		r.said = append(r.said, said{space: a.value})
	case a.name.name == xmlns:
		return false
	case a.name.prefix == xmlns:
		r.said = append(r.said, said{prefix: a.name.name, space: a.value})
		return a.value != ""
	}
	return true
}

// space answers the namespace of a prefix.
func (r *reader) space(prefix string) (string, bool) {
	for i := len(r.said) - 1; i >= 0; i-- {
		if r.said[i].prefix == prefix {
			return r.said[i].space, true
		}
	}
	return "", prefix == ""
}

// attrs answers a tag's attributes, but those that say a namespace, in the order
// of their names.
func (r *reader) attrs(t tag) ([]api.Attr, bool) {
	var l []api.Attr
	for _, a := range t.attrs {
		if a.name.prefix == xmlns || a.name.name == xmlns {
			continue
		}
		if _, known := r.space(a.name.prefix); !known {
			return nil, false
		}
		l = append(l, api.Attr{Name: a.name.name, Value: a.value})
	}
	slices.SortFunc(l, func(a, b api.Attr) int { return strings.Compare(a.Name, b.Name) })
	for i := 1; i < len(l); i++ {
		if l[i].Name == l[i-1].Name {
			return nil, false
		}
	}
	return l, true
}
