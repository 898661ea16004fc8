package wire_test

import (
	"math"
	"slices"
	"strings"
	"testing"

	"tabulary/api"
	"tabulary/wire"
)

// from answers a reader of a text's bytes.
func from(s string) *wire.Reader {
	return wire.From([]byte(s))
}

// isZero fails the test unless all that r answers is zero, more than once.
func isZero(t *testing.T, what string, r *wire.Reader) {
	t.Helper()
	for range 2 {
		if r.Ok() || r.End() {
			t.Errorf("%s: Ok %v, End %v", what, r.Ok(), r.End())
		}
		if x := r.Byte(); x != 0 {
			t.Errorf("%s: Byte %d", what, x)
		}
		if r.Flag() {
			t.Errorf("%s: Flag", what)
		}
		if x := r.U32(); x != 0 {
			t.Errorf("%s: U32 %d", what, x)
		}
		if x := r.Text(); x != "" {
			t.Errorf("%s: Text %q", what, clip(x))
		}
		for _, n := range []int{0, 1, -1, math.MaxInt, math.MinInt} {
			if x := r.Bytes(n); len(x) != 0 {
				t.Errorf("%s: Bytes(%d) %q", what, n, x)
			}
		}
		if x := r.Names(); len(x) != 0 {
			t.Errorf("%s: Names %q", what, x)
		}
		if x := r.Int(); len(x) != 0 {
			t.Errorf("%s: Int %q", what, x)
		}
	}
}

// readers are the calls that take a part, each telling whether it answered zero.
func readers() map[string]func(r *wire.Reader) bool {
	return map[string]func(r *wire.Reader) bool{
		"Byte":  func(r *wire.Reader) bool { return r.Byte() == 0 },
		"Flag":  func(r *wire.Reader) bool { return !r.Flag() },
		"U32":   func(r *wire.Reader) bool { return r.U32() == 0 },
		"Text":  func(r *wire.Reader) bool { return r.Text() == "" },
		"Bytes": func(r *wire.Reader) bool { return len(r.Bytes(7)) == 0 },
		"Names": func(r *wire.Reader) bool { return len(r.Names()) == 0 },
		"Int":   func(r *wire.Reader) bool { return len(r.Int()) == 0 },
	}
}

// fails says that a call fails at these bytes, answers zero, and leaves nothing.
func fails(t *testing.T, call, s string) {
	t.Helper()
	// Behind a part that is wrong stand more bytes: they may not be read either.
	r := from(s)
	if !readers()[call](r) {
		t.Errorf("%s of % x: isn't zero", call, clip(s))
	}
	isZero(t, call, r)
}

// P1.1: Byte and U32 are the next ones; Flag is whether the next byte isn't 0.
func TestFixedPartsAreRead(t *testing.T) {
	r := from("\x00\xff\x00\x01\x02\xff\x01\x02\x03\x04\xff\xff\xff\xff\x00\x00\x00\x00")
	if a, b := r.Byte(), r.Byte(); a != 0 || b != 0xff {
		t.Errorf("Byte: %d %d", a, b)
	}
	if a, b, c, d := r.Flag(), r.Flag(), r.Flag(), r.Flag(); a || !b || !c || !d {
		t.Errorf("Flag: %v %v %v %v", a, b, c, d)
	}
	if a, b := r.U32(), r.U32(); a != 0x01020304 || b != 0xffffffff {
		t.Errorf("U32: %x %x", a, b)
	}
	if !r.Ok() || r.End() {
		t.Error("four bytes are left")
	}
	if a := r.U32(); a != 0 || !r.Ok() || !r.End() {
		t.Errorf("U32: %x at the end", a)
	}
	r.Byte()
	isZero(t, "behind the end", r)
}

// P1.1: every byte but 0 is a flag that is set.
func TestFlagOfEveryByte(t *testing.T) {
	for i := range 256 {
		if r := wire.From([]byte{byte(i)}); r.Flag() != (i != 0) || !r.End() {
			t.Errorf("Flag of %d", i)
		}
	}
}

// P1.1: once there is too little for a part the reader has failed.
func TestTooLittleForAPart(t *testing.T) {
	for call, short := range map[string][]string{
		"Byte":  {""},
		"Flag":  {""},
		"U32":   {"", "\x01", "\x01\x02", "\x01\x02\x03"},
		"Bytes": {"", "a", "abcdef"},
		"Text":  {"", "\x00", "\x00\x00\x00", "\x00\x00\x00\x01", "\x00\x00\x00\x03ab"},
		"Names": {"", "\x00\x00\x00", "\x00\x00\x00\x01", "\x00\x00\x00\x03a,"},
		"Int":   {"", "\x00\x00\x00", "\x00\x00\x00\x01", "\x00\x00\x00\x03\x01\x02"},
	} {
		for _, s := range short {
			fails(t, call, s)
		}
	}
}

// P1.1: a text's bytes are any; its length is MaxMessage at most.
func TestTextIsRead(t *testing.T) {
	r := from("\x00\x00\x00\x00\x00\x00\x00\x04\x00,\xff\n\x00\x00\x00\x01a")
	for _, want := range []string{"", "\x00,\xff\n", "a"} {
		if s := r.Text(); s != want || !r.Ok() {
			t.Errorf("Text: %q, want %q", s, want)
		}
	}
	if !r.End() {
		t.Error("something is left")
	}
	long := strings.Repeat("x", api.MaxMessage)
	if r := from("\x00\x00\x40\x00" + long); r.Text() != long || !r.End() {
		t.Error("a text of MaxMessage bytes isn't read")
	}
	fails(t, "Text", "\x00\x00\x40\x01"+long+"xyz")
	fails(t, "Text", "\x00\x01\x00\x00"+strings.Repeat(long, 4))
	fails(t, "Text", "\x7f\xff\xff\xff"+long)
	fails(t, "Text", "\x80\x00\x00\x00"+long)
	fails(t, "Text", "\xff\xff\xff\xff"+long)
}

// P1.1: names and an int are texts, with a text's bound.
func TestNamesAndIntHaveATextsBound(t *testing.T) {
	long := strings.Repeat("x", api.MaxMessage)
	if l := from("\x00\x00\x40\x00" + long).Names(); len(l) != 1 || l[0] != long {
		t.Error("a name of MaxMessage bytes isn't read")
	}
	if n := from("\x00\x00\x40\x00" + long).Int(); string(n) != long {
		t.Error("an int of MaxMessage bytes isn't read")
	}
	for _, call := range []string{"Names", "Int"} {
		fails(t, call, "\x00\x00\x40\x01"+long+"xyz")
		fails(t, call, "\xff\xff\xff\xff"+long)
	}
}

// P1.1: Bytes are the next n, none of 0, and fails below 0.
func TestBytesAreRead(t *testing.T) {
	r := from("abcdef")
	bytesAre(t, "Bytes(0)", r.Bytes(0), "")
	bytesAre(t, "Bytes(2)", r.Bytes(2), "ab")
	bytesAre(t, "Bytes(4)", r.Bytes(4), "cdef")
	bytesAre(t, "Bytes(0) at the end", r.Bytes(0), "")
	if !r.Ok() || !r.End() {
		t.Error("all was there")
	}
	for _, n := range []int{-1, -6, math.MinInt, 7, 1 << 31, math.MaxInt} {
		r := from("abcdef")
		bytesAre(t, "Bytes outside", r.Bytes(n), "")
		isZero(t, "Bytes outside", r)
		r = from("abcdef")
		r.Byte()
		bytesAre(t, "Bytes outside, amid", r.Bytes(n), "")
		isZero(t, "Bytes outside, amid", r)
	}
}

// P1.1: names are those of a text; an empty text has none, no name is empty.
func TestNamesAreRead(t *testing.T) {
	for _, c := range []struct {
		s    string
		want []string
	}{
		{"\x00\x00\x00\x00", nil},
		{"\x00\x00\x00\x01a", []string{"a"}},
		{"\x00\x00\x00\x04x,yz", []string{"x", "yz"}},
		{"\x00\x00\x00\x06x,yz,x", []string{"x", "yz", "x"}},
		{"\x00\x00\x00\x03 ,\xff", []string{" ", "\xff"}},
	} {
		r := from(c.s + "z")
		if l := r.Names(); !slices.Equal(l, c.want) || !r.Ok() || r.End() || r.Byte() != 'z' || !r.End() {
			t.Errorf("Names: %q, want %q", l, c.want)
		}
	}
	fails(t, "Names", "\x00\x00\x00\x01,zzz")
	fails(t, "Names", "\x00\x00\x00\x02a,zzz")
	fails(t, "Names", "\x00\x00\x00\x02,azzz")
	fails(t, "Names", "\x00\x00\x00\x04a,,bzzz")
}

// P1.1: an int is read without zeros ahead.
func TestIntIsRead(t *testing.T) {
	for _, c := range []struct{ s, want string }{
		{"\x00\x00\x00\x00", ""},
		{"\x00\x00\x00\x01\x01", "\x01"},
		{"\x00\x00\x00\x01\x7f", "\x7f"},
		{"\x00\x00\x00\x02\x00\x80", "\x80"},
		{"\x00\x00\x00\x02\x01\x00", "\x01\x00"},
		{"\x00\x00\x00\x03\x00\xff\x00", "\xff\x00"},
		{"\x00\x00\x00\x03\x7f\xff\xff", "\x7f\xff\xff"},
	} {
		r := from(c.s + "z")
		bytesAre(t, "Int", r.Int(), c.want)
		if !r.Ok() || r.Byte() != 'z' || !r.End() {
			t.Errorf("Int of % x: what is behind it isn't read", c.s)
		}
	}
}

// P1.1: an int fails that isn't as short as may be, or is below 0.
func TestIntThatIsWrong(t *testing.T) {
	for _, s := range []string{
		"\x00\x00\x00\x01\x00",
		"\x00\x00\x00\x02\x00\x00",
		"\x00\x00\x00\x02\x00\x01",
		"\x00\x00\x00\x02\x00\x7f",
		"\x00\x00\x00\x03\x00\x00\x80",
		"\x00\x00\x00\x03\x00\x7f\xff",
		"\x00\x00\x00\x01\x80",
		"\x00\x00\x00\x01\xff",
		"\x00\x00\x00\x02\x80\x00",
		"\x00\x00\x00\x02\xff\x01",
	} {
		fails(t, "Int", s)
		// With a byte behind it that would have made it right.
		fails(t, "Int", s+"\xff\xff\xff\xff\xff")
	}
}

// P1.1: Ok and End of readers of all, some and nothing.
func TestOkAndEnd(t *testing.T) {
	for _, r := range []*wire.Reader{wire.From(nil), from("")} {
		if !r.Ok() || !r.End() {
			t.Error("a reader of nothing is at its end and hasn't failed")
		}
	}
	r := from("a")
	if !r.Ok() || r.End() {
		t.Error("a byte is left")
	}
	if r.Byte() != 'a' || !r.Ok() || !r.End() {
		t.Error("no byte is left, and none was missing")
	}
	r.Byte()
	isZero(t, "a reader that has failed", r)
}

// P1.1: a nil reader answers zero and false.
func TestNilReader(t *testing.T) {
	isZero(t, "nil", nil)
	for call, zero := range readers() {
		if !zero(nil) {
			t.Errorf("%s of nil isn't zero", call)
		}
	}
}

// The fourth rule: a reader keeps nothing of what was handed in.
func TestReaderKeepsNothing(t *testing.T) {
	b := []byte("abcd\x00\x00\x00\x01q!!!")
	r := wire.From(b[:9])
	copy(b, "############")
	bytesAre(t, "Bytes", r.Bytes(4), "abcd")
	if s := r.Text(); s != "q" || !r.End() {
		t.Errorf("Text: %q", s)
	}
}

// The fourth rule: what a reader answers is new memory, and b isn't changed.
func TestReaderAnswersNewMemory(t *testing.T) {
	b := []byte("abcd\x00\x00\x00\x02\x00\x80\x00\x00\x00\x03x,y")
	was := string(b)
	r, other := wire.From(b), wire.From(b)
	head := r.Bytes(4)
	clear(head)
	_ = append(head, "########"...)
	n := r.Int()
	bytesAre(t, "Int", n, "\x80")
	n[0] = '#'
	_ = append(n, "########"...)
	l := r.Names()
	if !slices.Equal(l, []string{"x", "y"}) || !r.End() {
		t.Errorf("Names: %q", l)
	}
	l[0] = "#"
	bytesAre(t, "what was handed in", b, was)
	bytesAre(t, "the other reader's", other.Bytes(len(b)), was)
}
