package xml

import (
	"strings"

	"tabulary/api"
)

// A writer writes elements.
type writer struct {
	strings.Builder
	open []level
}

// A level is an element whose end isn't written yet.
type level struct {
	name, space string
	left        []api.Elem // those in it that aren't written yet
}

// begin writes an element's tag and its text. It stands in one of the namespace
// around.
func (w *writer) begin(e api.Elem, around string) {
	w.WriteString("<" + e.Name)
	if e.Space != around {
		w.attribute(xmlns, e.Space)
	}
	for _, a := range e.Attrs {
		w.attribute(a.Name, a.Value)
	}
	if e.Text == "" && len(e.Kids) == 0 {
		w.WriteString("/>")
		return
	}
	w.WriteString(">")
	w.escape(e.Text)
	w.open = append(w.open, level{name: e.Name, space: e.Space, left: e.Kids})
}

// end writes the end of the innermost element.
func (w *writer) end() {
	last := len(w.open) - 1
	w.WriteString(endTag + w.open[last].name + ">")
	w.open = w.open[:last]
}

// attribute writes an attribute.
func (w *writer) attribute(name, value string) {
	w.WriteString(" " + name + `="`)
	w.escape(value)
	w.WriteString(`"`)
}

// escape writes a text, or a value. Where it is nothing but spaces these are
// entities, for blanks alone wouldn't be read as a text.
func (w *writer) escape(s string) {
	spaces := strings.Trim(s, " ") == ""
	for i := range len(s) {
		if spaces {
			w.WriteString("&#32;")
		} else if entity := entityOf(s[i]); entity != "" {
			w.WriteString(entity)
		} else {
			w.WriteByte(s[i])
		}
	}
}

// entityOf answers the entity as which a sign is written; "": it stands as it is.
func entityOf(c byte) string {
	switch c {
	case '&':
		return "&amp;"
	case '<':
		return "&lt;"
	case '>':
		return "&gt;"
	case '"':
		return "&quot;"
	case '\r':
		return "&#13;"
	case '\n':
		return "&#10;"
	case '\t':
		return "&#9;"
	}
	return ""
}
