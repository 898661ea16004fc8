package frame_test

import (
	"strings"
	"testing"

	"tabulary/frame"
)

// P12.1: a message in the first framing, and as one chunk.
func TestEncode(t *testing.T) {
	for _, c := range []struct{ msg, first, chunked string }{
		{"", "]]>]]>", ""},
		{"a", "a]]>]]>", "\n#1\na\n##\n"},
		{"ab", "ab]]>]]>", "\n#2\nab\n##\n"},
		{"\n", "\n]]>]]>", "\n#1\n\n\n##\n"},
		{"]]>]]>", "]]>]]>]]>]]>", "\n#6\n]]>]]>\n##\n"},
		{"\n##\n", "\n##\n]]>]]>", "\n#4\n\n##\n\n##\n"},
		{"\xff\x00\xc3", "\xff\x00\xc3]]>]]>", "\n#3\n\xff\x00\xc3\n##\n"},
		{"\u00e9", "\u00e9]]>]]>", "\n#2\n\u00e9\n##\n"},
		{"123456789", "123456789]]>]]>", "\n#9\n123456789\n##\n"},
		{"1234567890", "1234567890]]>]]>", "\n#10\n1234567890\n##\n"},
	} {
		if got := frame.Encode(c.msg, false); got != c.first {
			t.Errorf("Encode(%q, false): %q", c.msg, got)
		}
		if got := frame.Encode(c.msg, true); got != c.chunked {
			t.Errorf("Encode(%q, true): %q", c.msg, got)
		}
	}
}

// P12.1: messages of any length, those that nobody would decode, too.
func TestEncodeLong(t *testing.T) {
	for n, size := range map[int]string{
		99: "99", 100: "100", 1000: "1000", 16384: "16384", 16385: "16385", 100000: "100000", 12345678: "12345678",
	} {
		s := strings.Repeat("x", n)
		if frame.Encode(s, false) != s+"]]>]]>" {
			t.Error(n, "in the first framing")
		}
		if frame.Encode(s, true) != "\n#"+size+"\n"+s+"\n##\n" {
			t.Error(n, "as a chunk")
		}
	}
}
