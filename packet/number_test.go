package packet

import (
	"bytes"
	"testing"

	"tabulary/api"
	"tabulary/digest"
)

// P7.1: numbers are modulo 2^32, those of the padding and of the codes too.
func TestNumberWraps(t *testing.T) {
	k := Keys{Key: make([]byte, 16), Iv: make([]byte, 16), Mac: make([]byte, 32)}
	var w Writer
	var r Reader
	if w.Take(k) != api.OK || r.Take(k) != api.OK {
		t.Fatal("Take")
	}
	w.number, r.number = 1<<32-2, 1<<32-2
	for i, number := range []uint32{1<<32 - 2, 1<<32 - 1, 0, 1} {
		if w.Number() != number || r.Number() != number || w.Count() != i || r.Count() != i {
			t.Fatalf("packet %d: numbers %d and %d", i, w.Number(), r.Number())
		}
		noise := digest.Draw("draw", uint64(number))
		plain := append([]byte{0, 0, 0, 12, 10, 5}, noise[:10]...)
		ahead := []byte{byte(number >> 24), byte(number >> 16), byte(number >> 8), byte(number)}
		code := digest.Mac(k.Mac, ahead, plain)
		b, e := w.Write([]byte{5}, "draw")
		if e != api.OK || !bytes.Equal(b[16:], code[:]) {
			t.Fatalf("packet %d: %x, %d", i, b, e)
		}
		r.Feed(b)
		if got, e := r.Next(); e != api.OK || !bytes.Equal(got, []byte{5}) {
			t.Fatalf("packet %d is read as %x, %d", i, got, e)
		}
	}
}
