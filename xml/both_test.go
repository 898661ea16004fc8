package xml_test

import (
	other "encoding/xml"
	"io"
	"math/rand"
	"slices"
	"strings"
	"testing"

	"tabulary/api"
	"tabulary/xml"
)

const (
	firstSigns = "abcdefghijklmnopqrstuvwxyzABCDEFGHIJKLMNOPQRSTUVWXYZ_"
	nameSigns  = firstSigns + "0123456789-."
)

// someName answers a name of up to 32 signs, often a short one.
func someName(rnd *rand.Rand) string {
	n := []int{1, 1, 2, 3 + rnd.Intn(8), 1 + rnd.Intn(32), 32}[rnd.Intn(6)]
	b := []byte{firstSigns[rnd.Intn(len(firstSigns))]}
	for len(b) < n {
		b = append(b, nameSigns[rnd.Intn(len(nameSigns))])
	}
	return string(b)
}

// someText answers a text of up to n signs, often of blanks alone, or of signs
// that are written as entities.
func someText(rnd *rand.Rand, n int) string {
	const all = "\t\n\r !\"#$%&'()*+,-./0123456789:;<=>?@ABCDEFGHIJKLMNOPQRSTUVWXYZ[\\]^_`abcdefghijklmnopqrstuvwxyz{|}~"
	from := []string{all, " ", " \t\n\r", "<>&\"';#x41", "]]>-", "ab"}[rnd.Intn(6)]
	b := make([]byte, rnd.Intn(n+1))
	for i := range b {
		b[i] = from[rnd.Intn(len(from))]
	}
	return string(b)
}

// someAttrs answers up to n attributes, no two alike, in any order.
func someAttrs(rnd *rand.Rand, n int) []api.Attr {
	var l []api.Attr
	for range n {
		a := api.Attr{Name: someName(rnd), Value: someText(rnd, 12)}
		if a.Name != "xmlns" && !slices.ContainsFunc(l, func(b api.Attr) bool { return a.Name == b.Name }) {
			l = append(l, a)
		}
	}
	return l
}

// A grower makes elements that may be.
type grower struct {
	*rand.Rand
	left int // how many more there may be
}

// grown answers an element of any kind.
func grown(rnd *rand.Rand) api.Elem {
	g := grower{rnd, []int{5, 40, 400}[rnd.Intn(3)]}
	return g.elem("", 1+rnd.Intn(16))
}

// elem answers an element in one of a namespace, of so many levels at most.
func (g *grower) elem(around string, levels int) api.Elem {
	e := api.Elem{Space: around, Name: someName(g.Rand)}
	most := 32
	if g.Intn(3) == 0 {
		e.Space = []string{"", "u", "urn:v", someText(g.Rand, 20)}[g.Intn(4)]
	}
	if e.Space != around {
		most = 31 // xmlns is one, too
	}
	e.Attrs = someAttrs(g.Rand, []int{0, 0, 0, 1, g.Intn(5), g.Intn(most + 1)}[g.Intn(6)])
	if levels == 1 || g.Intn(4) == 0 {
		e.Text = someText(g.Rand, []int{0, 5, 40, 300}[g.Intn(4)])
		return e
	}
	for range []int{1, 1, 1, g.Intn(4), g.Intn(257)}[g.Intn(5)] {
		if g.left == 0 {
			break
		}
		g.left--
		e.Kids = append(e.Kids, g.elem(e.Space, levels-1))
	}
	return e
}

// sorted answers an element with its attributes in order.
func sorted(e api.Elem) api.Elem {
	e.Attrs = slices.Clone(e.Attrs)
	slices.SortFunc(e.Attrs, func(a, b api.Attr) int { return strings.Compare(a.Name, b.Name) })
	e.Kids = slices.Clone(e.Kids)
	for i, kid := range e.Kids {
		e.Kids[i] = sorted(kid)
	}
	return e
}

// P13.2: elements of all kinds are read as they were written.
func TestThereAndBack(t *testing.T) {
	rnd := rand.New(rand.NewSource(13))
	n := 0
	for n < 3000 {
		e := grown(rnd)
		s := xml.Text(e)
		if s != written(e, "") {
			t.Fatalf("Text(%+v): %s", e, short(s))
		}
		if len(s) > 16384 {
			refuses(t, s, api.ErrLen)
			continue
		}
		n++
		reads(t, s, sorted(e))
		if back, _ := xml.Parse(s); xml.Text(back) != xml.Text(sorted(e)) {
			t.Fatal(short(s))
		}
		if t.Failed() {
			return
		}
	}
}

// P13.2: all short texts of blanks, and of signs that are written as entities,
// as texts, values and namespaces.
func TestThereAndBackOfShortTexts(t *testing.T) {
	everyText([]string{" ", "\t", "\n", "\r", "<", ">", "&", "\"", "'", "]", ";", "a"}, 3, func(s string) {
		for _, e := range []api.Elem{saying(el("a"), s), el("a", "x", s), of(s, el("a")), with(el("a"), of(s, saying(el("b"), s)), el("c")), with(of(s, el("a")), el("b"), of(s, el("c")))} {
			reads(t, xml.Text(e), e)
		}
	})
}

// P13.2: elements as great as they may be, in each way.
func TestThereAndBackAtLimits(t *testing.T) {
	long := strings.Repeat("n", 32)
	deepest := saying(of("u", el(long)), "x")
	for i := range 15 {
		deepest = with(of([]string{"u", "v", ""}[i%3], el(long)), deepest)
	}
	many := of("u", el("a"))
	for range 256 {
		many.Kids = append(many.Kids, saying(el("b"), " "))
	}
	all := el("a")
	for _, c := range firstSigns[:32] {
		all.Attrs = append(all.Attrs, api.Attr{Name: strings.Repeat(string(c), 32), Value: " \"<"})
	}
	longest := saying(el("a"), strings.Repeat("x", 16384-7))
	for _, e := range []api.Elem{deepest, many, all, longest} {
		reads(t, xml.Text(e), sorted(e))
	}
	refuses(t, xml.Text(with(el("a"), deepest)), api.ErrDeep)
	many.Kids = append(many.Kids, el("b"))
	refuses(t, xml.Text(many), api.ErrLen)
	refuses(t, xml.Text(of("u", all)), api.ErrForm)
	all.Attrs = append(all.Attrs, api.Attr{Name: "_"})
	refuses(t, xml.Text(all), api.ErrForm)
	longest.Text += "x"
	refuses(t, xml.Text(longest), api.ErrLen)
}

// library reads a document by Go's library, whose words for ends of lines and
// for texts around elements are others.
func library(s string) (api.Elem, error) {
	d := other.NewDecoder(strings.NewReader(s))
	var open []api.Elem
	for {
		token, err := d.Token()
		if err == io.EOF {
			return open[0].Kids[0], nil
		}
		if err != nil {
			return api.Elem{}, err
		}
		if open == nil {
			open = []api.Elem{{}}
		}
		in := &open[len(open)-1]
		switch x := token.(type) {
		case other.StartElement:
			e := api.Elem{Space: x.Name.Space, Name: x.Name.Local}
			for _, a := range x.Attr {
				if a.Name.Space != "xmlns" && (a.Name.Space != "" || a.Name.Local != "xmlns") {
					e.Attrs = append(e.Attrs, api.Attr{Name: a.Name.Local, Value: a.Value})
				}
			}
			open = append(open, e)
		case other.CharData:
			in.Text += string(x)
		case other.EndElement:
			if len(in.Kids) > 0 {
				in.Text = ""
			}
			open = open[:len(open)-1]
			up := &open[len(open)-1]
			up.Kids = append(up.Kids, *in)
		}
	}
}

// P13.2: what is written is read by Go's library as it was meant, too.
func TestTextByTheLibrary(t *testing.T) {
	rnd := rand.New(rand.NewSource(14))
	for range 1500 {
		e := grown(rnd)
		s := xml.Text(e)
		if got, err := library(s); err != nil || !same(got, e) {
			t.Fatalf("%s: %+v, %v", short(s), got, err)
		}
	}
}
