package packet_test

import (
	"bytes"
	"math/rand"
	"testing"

	"tabulary/api"
	"tabulary/packet"
)

// A taker is a writer or a reader.
type taker interface {
	Take(packet.Keys) api.Errno
	Count() int
	Number() uint32
}

// written answers a payload's packet.
func written(t *testing.T, w *packet.Writer, payload []byte, draw string) []byte {
	t.Helper()
	b, e := w.Write(payload, draw)
	if e != api.OK {
		t.Fatalf("Write of %d bytes: %d", len(payload), e)
	}
	return b
}

// takes has w take keys.
func takes(t *testing.T, w taker, k packet.Keys) {
	t.Helper()
	if e := w.Take(k); e != api.OK {
		t.Fatalf("Take: %d", e)
	}
}

// rekey has all take the same keys, of any bytes.
func rekey(t *testing.T, rnd *rand.Rand, p *peer, all ...taker) {
	t.Helper()
	k := someKeys(rnd)
	for _, x := range all {
		takes(t, x, k)
	}
	p.take(k)
}

// stands fails the test if w isn't at that count and that number.
func stands(t *testing.T, w taker, count int, number uint32) {
	t.Helper()
	if w.Count() != count || w.Number() != number {
		t.Fatalf("at count %d, number %d, want %d and %d", w.Count(), w.Number(), count, number)
	}
}

// P7.1: the chapter's example: 00 00 00 0C 0A 05 and ten bytes, which are the
// small hash's of the draw and eight bytes of 0.
func TestExample(t *testing.T) {
	var w packet.Writer
	b := written(t, &w, []byte{5}, "")
	// SHA-256 of eight bytes of 0.
	want := unhex(t, "0000000C0A05"+"af5570f5a1810b7af78c")
	if !bytes.Equal(b, want) {
		t.Errorf("the packet of 05: %x, want %x", b, want)
	}
}

// P7.1: packets of every length a payload may have, without keys and with.
func TestWriteOfEveryLength(t *testing.T) {
	rnd := rand.New(rand.NewSource(1))
	var w packet.Writer
	var p peer
	for keys := range 2 {
		if keys == 1 {
			rekey(t, rnd, &p, &w)
		}
		for n := 1; n <= 2048; n++ {
			stands(t, &w, n-1, p.number)
			payload := someBytes(rnd, n)
			if got, want := written(t, &w, payload, "a seed"), p.write(payload, "a seed"); !bytes.Equal(got, want) {
				t.Fatalf("packet %d, of %d bytes: %x, want %x", p.number, n, got, want)
			}
		}
	}
	stands(t, &w, 2048, 4096)
}

// P7.1: the draw is of each call.
func TestWriteOfAnyDraw(t *testing.T) {
	rnd := rand.New(rand.NewSource(2))
	var w packet.Writer
	var p peer
	for i := range 300 {
		if i%50 == 49 {
			rekey(t, rnd, &p, &w)
		}
		payload, draw := someBytes(rnd, 1+rnd.Intn(60)), string(someBytes(rnd, rnd.Intn(100)))
		if got, want := written(t, &w, payload, draw), p.write(payload, draw); !bytes.Equal(got, want) {
			t.Fatalf("packet %d, by the draw %x: %x, want %x", i, draw, got, want)
		}
	}
}

// P7.1: ErrLen, if the payload is empty, or above 2048 bytes; nothing has
// changed by that.
func TestWriteOfWrongLengths(t *testing.T) {
	rnd := rand.New(rand.NewSource(3))
	var w packet.Writer
	var p peer
	for i := range 4 {
		if i == 2 {
			rekey(t, rnd, &p, &w)
		}
		for _, payload := range [][]byte{nil, {}, make([]byte, 2049), make([]byte, 2050), make([]byte, 5000), make([]byte, 1<<16), make([]byte, 1<<20)} {
			if b, e := w.Write(payload, "draw"); len(b) != 0 || e != api.ErrLen {
				t.Errorf("Write of %d bytes: %d bytes, %d, want ErrLen", len(payload), len(b), e)
			}
			stands(t, &w, i%2, uint32(i))
		}
		if got, want := written(t, &w, []byte("text"), "draw"), p.write([]byte("text"), "draw"); !bytes.Equal(got, want) {
			t.Errorf("packet %d behind those: %x, want %x", i, got, want)
		}
	}
}

// P7.1: of a nil *Writer: ErrLen.
func TestNilWriter(t *testing.T) {
	var w *packet.Writer
	for _, payload := range [][]byte{nil, {1}, make([]byte, 2048), make([]byte, 2049)} {
		if b, e := w.Write(payload, "draw"); len(b) != 0 || e != api.ErrLen {
			t.Errorf("Write of nil, of %d bytes: %x, %d, want ErrLen", len(payload), b, e)
		}
	}
}

// The fourth rule: what is handed in isn't changed, the room behind it neither,
// and not kept; what is answered is new memory.
func TestWriteChangesAndKeepsNothing(t *testing.T) {
	rnd := rand.New(rand.NewSource(4))
	var w packet.Writer
	var p peer
	whole := bytes.Repeat([]byte{'#'}, 400)
	for i := range 20 {
		if i == 10 {
			rekey(t, rnd, &p, &w)
		}
		b := written(t, &w, whole[100:100+i+1], "draw")
		if !bytes.Equal(whole, bytes.Repeat([]byte{'#'}, 400)) {
			t.Fatalf("what was handed in is %q", whole)
		}
		if want := p.write(whole[:i+1], "draw"); !bytes.Equal(b, want) {
			t.Fatalf("packet %d: %x, want %x", i, b, want)
		}
		for _, room := range [][]byte{b, b[len(b):cap(b)]} {
			for j := range room {
				room[j] = '!'
			}
		}
	}
}
