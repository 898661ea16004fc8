package wire_test

import (
	"strings"
	"testing"

	"tabulary/api"
	"tabulary/wire"
)

// bytesAre fails the test if got isn't want.
func bytesAre(t *testing.T, what string, got []byte, want string) {
	t.Helper()
	if string(got) != want {
		t.Errorf("%s: % x, want % x", what, clip(string(got)), clip(want))
	}
}

// clip keeps a failure's line short.
func clip(s string) string {
	return s[:min(len(s), 40)]
}

// P1.1: U32 is four bytes, the highest first.
func TestU32IsWritten(t *testing.T) {
	for _, c := range []struct {
		n    uint32
		want string
	}{
		{0, "\x00\x00\x00\x00"},
		{1, "\x00\x00\x00\x01"},
		{258, "\x00\x00\x01\x02"},
		{0x01020304, "\x01\x02\x03\x04"},
		{0x80000000, "\x80\x00\x00\x00"},
		{0xffffffff, "\xff\xff\xff\xff"},
	} {
		bytesAre(t, "U32", wire.U32(nil, c.n), c.want)
		bytesAre(t, "U32 behind", wire.U32([]byte("ab"), c.n), "ab"+c.want)
	}
}

// P1.1: a text is its length as U32 and its bytes, whatever they are.
func TestTextIsWritten(t *testing.T) {
	for _, c := range []struct{ s, want string }{
		{"", "\x00\x00\x00\x00"},
		{"abc", "\x00\x00\x00\x03abc"},
		{"\x00,\xff\n", "\x00\x00\x00\x04\x00,\xff\n"},
		{strings.Repeat("x", 258), "\x00\x00\x01\x02" + strings.Repeat("x", 258)},
		// Only a reader has a bound of a text's length.
		{strings.Repeat("x", api.MaxMessage+1), "\x00\x00\x40\x01" + strings.Repeat("x", api.MaxMessage+1)},
	} {
		bytesAre(t, "Text", wire.Text(nil, c.s), c.want)
		bytesAre(t, "Text behind", wire.Text([]byte{7}, c.s), "\x07"+c.want)
	}
}

// P1.1: names are a text of them with commas between.
func TestNamesAreWritten(t *testing.T) {
	for _, c := range []struct {
		l    []string
		want string
	}{
		{nil, "\x00\x00\x00\x00"},
		{[]string{}, "\x00\x00\x00\x00"},
		{[]string{"a"}, "\x00\x00\x00\x01a"},
		{[]string{"x", "yz"}, "\x00\x00\x00\x04x,yz"},
		{[]string{"x", "yz", "x"}, "\x00\x00\x00\x06x,yz,x"},
		{[]string{"a", "", "b"}, "\x00\x00\x00\x04a,,b"},
		{[]string{"", ""}, "\x00\x00\x00\x01,"},
	} {
		bytesAre(t, "Names", wire.Names(nil, c.l), c.want)
		bytesAre(t, "Names behind", wire.Names([]byte("q"), c.l), "q"+c.want)
	}
}

// P1.1: a flag is a byte 1 or 0.
func TestFlagIsWritten(t *testing.T) {
	bytesAre(t, "Flag", wire.Flag(nil, true), "\x01")
	bytesAre(t, "Flag", wire.Flag(nil, false), "\x00")
	bytesAre(t, "Flag behind", wire.Flag([]byte{5, 6}, true), "\x05\x06\x01")
}

// P1.1: an int is a text of its bytes, as few as may be, the first bit 0.
func TestIntIsWritten(t *testing.T) {
	for _, c := range []struct{ n, want string }{
		{"", "\x00\x00\x00\x00"},
		{"\x00", "\x00\x00\x00\x00"},
		{"\x00\x00\x00", "\x00\x00\x00\x00"},
		{"\x01", "\x00\x00\x00\x01\x01"},
		{"\x7f", "\x00\x00\x00\x01\x7f"},
		{"\x80", "\x00\x00\x00\x02\x00\x80"}, // the chapter's example
		{"\x00\x80", "\x00\x00\x00\x02\x00\x80"},
		{"\x00\x00\x80", "\x00\x00\x00\x02\x00\x80"},
		{"\x00\x00\x7f", "\x00\x00\x00\x01\x7f"},
		{"\xff\xff", "\x00\x00\x00\x03\x00\xff\xff"},
		{"\x00\x01\x00\x80\x00", "\x00\x00\x00\x04\x01\x00\x80\x00"},
		{"\x80" + strings.Repeat("\x00", 31), "\x00\x00\x00\x21\x00\x80" + strings.Repeat("\x00", 31)},
	} {
		bytesAre(t, "Int", wire.Int(nil, []byte(c.n)), c.want)
		bytesAre(t, "Int behind", wire.Int([]byte("q"), []byte(c.n)), "q"+c.want)
	}
	bytesAre(t, "Int of nil", wire.Int(nil, nil), "\x00\x00\x00\x00")
}

// writers are the five calls, each with one part to write.
func writers() map[string]func(b []byte) []byte {
	return map[string]func(b []byte) []byte{
		"U32":       func(b []byte) []byte { return wire.U32(b, 0xa1a2a3a4) },
		"Text":      func(b []byte) []byte { return wire.Text(b, "abc") },
		"TextEmpty": func(b []byte) []byte { return wire.Text(b, "") },
		"Names":     func(b []byte) []byte { return wire.Names(b, []string{"x", "yz"}) },
		"Flag":      func(b []byte) []byte { return wire.Flag(b, true) },
		"Int":       func(b []byte) []byte { return wire.Int(b, []byte{0x80}) },
	}
}

// P1.1 and the fourth rule: the room behind b may be somebody else's, and what
// was answered has memory of its own.
func TestWritersLeaveTheRoomBehindAlone(t *testing.T) {
	for name, write := range writers() {
		whole := []byte(strings.Repeat("#", 64))
		b := whole[:3]
		first := write(b)
		told := string(first)
		if string(whole) != strings.Repeat("#", 64) {
			t.Errorf("%s wrote into the room behind b: %q", name, whole)
		}
		wire.U32(b, 0)
		wire.U32(first, 0)
		whole[0] = '!'
		bytesAre(t, name+" is its own", first, told)
		first[1] = '?'
		if whole[1] != '#' {
			t.Errorf("%s shares memory with b", name)
		}
	}
}

// The fourth rule: lists that are handed in aren't changed.
func TestWritersChangeNoArgument(t *testing.T) {
	n := []byte{0, 0, 0x80, 1, 9, 9}
	wire.Int(nil, n[:4])
	bytesAre(t, "Int's bytes", n, "\x00\x00\x80\x01\x09\x09")
	bytesAre(t, "Int behind itself", wire.Int(n[:4], n[:4]), "\x00\x00\x80\x01\x00\x00\x00\x03\x00\x80\x01")
	l := []string{"a", "", "b", "c"}
	wire.Names(nil, l[:2])
	if strings.Join(l, "|") != "a||b|c" {
		t.Errorf("Names changed its list: %q", l)
	}
}
