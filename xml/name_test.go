package xml_test

import (
	"strings"
	"testing"

	"tabulary/xml"
)

// isName fails the test unless a text is, or isn't, a name, alone and in
// documents.
func isName(t *testing.T, s string, want bool) {
	t.Helper()
	if got := xml.Name(s); got != want || got != rightName.MatchString(s) {
		t.Errorf("Name(%s): %t", short(s), got)
	}
	if want {
		reads(t, "<"+s+"/>", el(s))
		reads(t, "<"+s+"></"+s+">", el(s))
		if s != "xmlns" {
			reads(t, "<a "+s+"='1'/>", el("a", s, "1"))
		}
	}
}

// P13.1: each byte, at the front of a name and in it.
func TestNameOfEachByte(t *testing.T) {
	const letters = "ABCDEFGHIJKLMNOPQRSTUVWXYZabcdefghijklmnopqrstuvwxyz_"
	for i := range 256 {
		s := string([]byte{byte(i)})
		isName(t, s, strings.Contains(letters, s))
		within := strings.Contains(letters+"0123456789-.", s)
		for _, name := range []string{"a" + s, "_" + s + "b", "a--." + s, strings.Repeat("b", 31) + s} {
			isName(t, name, within)
		}
	}
}

// P13.1: lengths of names, and signs of more than a byte.
func TestName(t *testing.T) {
	for _, s := range []string{"a", "_", "xml", "XML", "xmlns", "rpc-reply", "a.b", "_-.", "a1", strings.Repeat("a", 31), strings.Repeat("_", 32), "a" + strings.Repeat("-", 31)} {
		isName(t, s, true)
	}
	for _, s := range []string{
		"", " ", "a ", " a", "a b", "a\n", "a:b", ":", ":a", "a:", "-a", ".a", "1a", "--", "a/b", "a>", "a<",
		"é", "aé", "ǅ", "ａ", "a１", "a\xff", "\xffa", "\xc3", "a\xc3", "a\x00", "\x00", "a\u212a", "\ufffd", "a\ufffd",
		strings.Repeat("a", 33), strings.Repeat("a", 1000), strings.Repeat("a", 1<<20), "a" + strings.Repeat("é", 16), strings.Repeat("a", 32) + " ",
	} {
		isName(t, s, false)
		if len(s) < 100 {
			agrees(t, "<"+s+"/>")
			agrees(t, "<"+s+"></"+s+">")
			agrees(t, "<a "+s+"='1'/>")
		}
	}
}
