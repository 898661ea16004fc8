// Package wire is layer 1: SSH's data types (RFC 4251, section 5) as bytes.
package wire

import (
	"strings"

	"tabulary/api"
)

// U32 answers b and behind it n as four bytes, the highest first.
func U32(b []byte, n uint32) []byte {
	return behind(b, byte(n>>24), byte(n>>16), byte(n>>8), byte(n))
}

// Text answers b and behind it the length of s and its bytes.
func Text(b []byte, s string) []byte {
	return append(U32(b, uint32(len(s))), s...)
}

// Names answers b and behind it a text of the names with commas between.
func Names(b []byte, l []string) []byte {
	return Text(b, strings.Join(l, ","))
}

// Flag answers b and behind it a byte 1 or 0.
func Flag(b []byte, x bool) []byte {
	if x {
		return behind(b, 1)
	}
	return behind(b, 0)
}

// Int answers b and behind it the number whose bytes n is, the highest first.
func Int(b []byte, n []byte) []byte {
	s := string(n)
	for s != "" && s[0] == 0 {
		s = s[1:]
	}
	if highBit(s) {
		s = "\x00" + s // else it would be read as a number below 0
	}
	return Text(b, s)
}

// behind never writes into the room behind b, which may hold somebody else's
// bytes: the third index leaves no room, so that append takes new memory.
func behind(b []byte, part ...byte) []byte {
	return append(b[:len(b):len(b)], part...)
}

// highBit tells whether the first bit of s is 1.
func highBit(s string) bool {
	return s != "" && s[0] >= 0x80
}

// A Reader takes parts from the front. Once there is too little for one it has
// failed: nothing is left, and all it answers from then on is zero.
type Reader struct {
	rest   string // a text, not a slice: nobody can change what isn't read yet
	failed bool
}

// From answers a reader of b.
func From(b []byte) *Reader {
	return &Reader{rest: string(b)}
}

// Byte answers the next byte.
func (r *Reader) Byte() byte {
	s := r.take(1)
	if s == "" {
		return 0
	}
	return s[0]
}

// Flag tells whether the next byte is not 0.
func (r *Reader) Flag() bool {
	return r.Byte() != 0
}

// U32 answers the next four bytes as a number, the highest first.
func (r *Reader) U32() uint32 {
	s := r.take(4)
	if s == "" {
		return 0
	}
	return uint32(s[0])<<24 | uint32(s[1])<<16 | uint32(s[2])<<8 | uint32(s[3])
}

// Text answers the next text, of at most MaxMessage bytes.
func (r *Reader) Text() string {
	n := r.U32()
	if n > api.MaxMessage {
		r.fail()
		return ""
	}
	return r.take(int(n))
}

// Bytes answers the next n bytes.
func (r *Reader) Bytes(n int) []byte {
	return []byte(r.take(n))
}

// Names answers the names of the next text, none of which may be empty.
func (r *Reader) Names() []string {
	s := r.Text()
	if s == "" {
		return nil
	}
	l := strings.Split(s, ",")
	for _, name := range l {
		if name == "" {
			r.fail()
			return nil
		}
	}
	return l
}

// Int answers the bytes of the next int, without zeros ahead.
func (r *Reader) Int() []byte {
	s := r.Text()
	if highBit(s) {
		r.fail()
		return nil
	}
	if s == "" || s[0] != 0 {
		return []byte(s)
	}
	// A zero ahead may only stand where the number's own first bit is 1.
	if !highBit(s[1:]) {
		r.fail()
		return nil
	}
	return []byte(s[1:])
}

// Ok tells whether the reader hasn't failed.
func (r *Reader) Ok() bool {
	return r != nil && !r.failed
}

// End tells whether the reader hasn't failed and nothing is left.
func (r *Reader) End() bool {
	return r.Ok() && r.rest == ""
}

// take answers the next n bytes; "" of a reader that fails at it, or has.
func (r *Reader) take(n int) string {
	if !r.Ok() {
		return ""
	}
	if n < 0 || n > len(r.rest) {
		r.fail()
		return ""
	}
	s := r.rest[:n]
	r.rest = r.rest[n:]
	return s
}

// fail leaves nothing to be read.
func (r *Reader) fail() {
	r.rest, r.failed = "", true
}
