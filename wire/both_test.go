package wire_test

import (
	"bytes"
	"math"
	"math/rand"
	"slices"
	"strings"
	"testing"

	"tabulary/wire"
)

// A part is something to write, and how it is read back.
type part struct {
	what  string
	write func(b []byte) []byte
	same  func(r *wire.Reader) bool
}

// someBytes answers fewer than most bytes, many of them 0 or with a first bit 1.
func someBytes(rnd *rand.Rand, most int) []byte {
	b := make([]byte, rnd.Intn(most))
	for i := range b {
		b[i] = []byte{0, 1, 0x7f, 0x80, ',', byte(rnd.Intn(256))}[rnd.Intn(6)]
	}
	return b
}

// someNames answers names of any bytes but commas, none of them empty.
func someNames(rnd *rand.Rand) []string {
	var l []string
	for range rnd.Intn(5) {
		l = append(l, "n"+strings.ReplaceAll(string(someBytes(rnd, 6)), ",", "-"))
	}
	return l
}

// somePart answers a part of any kind.
func somePart(rnd *rand.Rand) part {
	switch rnd.Intn(5) {
	case 0:
		n := []uint32{0, 1, 255, 256, math.MaxInt32, math.MaxUint32, rnd.Uint32()}[rnd.Intn(7)]
		return part{"U32", func(b []byte) []byte { return wire.U32(b, n) }, func(r *wire.Reader) bool { return r.U32() == n }}
	case 1:
		s := string(someBytes(rnd, 40))
		return part{"Text", func(b []byte) []byte { return wire.Text(b, s) }, func(r *wire.Reader) bool { return r.Text() == s }}
	case 2:
		l := someNames(rnd)
		return part{"Names", func(b []byte) []byte { return wire.Names(b, l) }, func(r *wire.Reader) bool { return slices.Equal(r.Names(), l) }}
	case 3:
		x := rnd.Intn(2) == 1
		return part{"Flag", func(b []byte) []byte { return wire.Flag(b, x) }, func(r *wire.Reader) bool { return r.Flag() == x }}
	}
	n := someBytes(rnd, 10)
	return part{"Int", func(b []byte) []byte { return wire.Int(b, n) }, func(r *wire.Reader) bool {
		return bytes.Equal(r.Int(), bytes.TrimLeft(n, "\x00"))
	}}
}

// someParts answers parts, and their bytes one behind the other.
func someParts(rnd *rand.Rand) ([]part, []byte) {
	var l []part
	var b []byte
	for range rnd.Intn(8) {
		p := somePart(rnd)
		l, b = append(l, p), p.write(b)
	}
	return l, b
}

// P1.2: what is written is read as it was, in any order, to the last byte.
func TestThereAndBack(t *testing.T) {
	rnd := rand.New(rand.NewSource(1))
	for range 3000 {
		l, b := someParts(rnd)
		r := wire.From(b)
		for _, p := range l {
			if !p.same(r) || !r.Ok() {
				t.Fatalf("%s of % x isn't read as it was", p.what, b)
			}
		}
		if !r.End() {
			t.Fatalf("% x isn't read to its end", b)
		}
	}
}

// P1.2: what was cut off is told: no beginning of the bytes is taken for all.
func TestCutOff(t *testing.T) {
	rnd := rand.New(rand.NewSource(2))
	for range 200 {
		l, b := someParts(rnd)
		for cut := range b {
			r := wire.From(b[:cut])
			for _, p := range l {
				p.same(r)
			}
			if r.Ok() {
				t.Fatalf("% x, cut off at %d, is read as whole", b, cut)
			}
			isZero(t, "cut off", r)
		}
	}
}

// P1.2, the other way round: an int, a text and names that are read are written
// as they were, for there is only one way to write each.
func TestBackAndThere(t *testing.T) {
	rnd := rand.New(rand.NewSource(3))
	for range 20000 {
		s := wire.Text(nil, string(someBytes(rnd, 6)))
		if r := wire.From(s); r.Text() != string(s[4:]) || !r.End() {
			t.Fatalf("Text of % x", s)
		}
		r := wire.From(s)
		if n := r.Int(); r.Ok() && !bytes.Equal(wire.Int(nil, n), s) {
			t.Fatalf("Int of % x: % x", s, n)
		}
		r = wire.From(s)
		if l := r.Names(); r.Ok() && !bytes.Equal(wire.Names(nil, l), s) {
			t.Fatalf("Names of % x: %q", s, l)
		}
	}
}

// P0: every call ends and none panics, whatever the bytes and the order; a
// reader that has failed stays so.
func TestAnyBytesInAnyOrder(t *testing.T) {
	rnd := rand.New(rand.NewSource(4))
	calls := []func(r *wire.Reader){
		func(r *wire.Reader) { r.Byte() },
		func(r *wire.Reader) { r.Flag() },
		func(r *wire.Reader) { r.U32() },
		func(r *wire.Reader) { r.Text() },
		func(r *wire.Reader) { r.Bytes(rnd.Intn(5) - 1) },
		func(r *wire.Reader) { r.Names() },
		func(r *wire.Reader) { r.Int() },
	}
	for range 20000 {
		r, ok := wire.From(someBytes(rnd, 24)), true
		for range 8 {
			calls[rnd.Intn(len(calls))](r)
			if r.Ok() && !ok || r.End() && !r.Ok() {
				t.Fatal("a reader that had failed hasn't any more")
			}
			ok = r.Ok()
		}
	}
}
