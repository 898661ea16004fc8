package ladder_test

import (
	"bytes"
	"math/big"
	"math/rand"
	"testing"

	"tabulary/api"
	"tabulary/ladder"
)

// answers fails the test if Mult of k and u isn't want in base 16.
func answers(t *testing.T, k, u []byte, want string) {
	t.Helper()
	b, e := ladder.Mult(k, u)
	if e != api.OK || !bytes.Equal(b, unhex(t, want)) {
		t.Errorf("Mult(%x, %x): %x, %d, want %s", k, u, b, e, want)
	}
}

// P4.1: Trim has bits 0, 1, 2 and 255 out, bit 254 in, and leaves the others.
func TestTrim(t *testing.T) {
	none := [32]byte{}
	if got, want := ladder.Trim(none), ([32]byte{31: 0x40}); got != want {
		t.Errorf("Trim of no bits: %x", got)
	}
	for i := range 256 {
		k := none
		k[i/8] = 1 << (i % 8)
		want := [32]byte{31: 0x40}
		if i > 2 && i != 255 {
			want[i/8] |= 1 << (i % 8)
		}
		if got := ladder.Trim(k); got != want {
			t.Errorf("Trim of bit %d: %x, want %x", i, got, want)
		}
		all := [32]byte(bytes.Repeat([]byte{0xFF}, 32))
		all[i/8] &^= 1 << (i % 8)
		want = [32]byte(bytes.Repeat([]byte{0xFF}, 32))
		want[0], want[31] = 0xF8, 0x7F
		if i != 254 {
			want[i/8] &^= 1 << (i % 8)
		}
		if got := ladder.Trim(all); got != want {
			t.Errorf("Trim of all bits but %d: %x, want %x", i, got, want)
		}
	}
}

// P4.1: what is trimmed stays so, and what was handed in isn't changed.
func TestTrimAgain(t *testing.T) {
	rnd := rand.New(rand.NewSource(1))
	for range 100 {
		k := [32]byte(someBytes(rnd))
		was := k
		once := ladder.Trim(k)
		if ladder.Trim(once) != once || k != was {
			t.Errorf("Trim of %x", k)
		}
	}
}

// P4.1: the chapter's example, and those of RFC 7748, 5.2.
func TestMultOfTheExamples(t *testing.T) {
	nine := number(9)
	answers(t, nine, nine, "422c8e7a6227d7bca1350b3e2bb7279f7897b87bb6854b783c60e80311ae3079")
	answers(t,
		unhex(t, "a546e36bf0527c9d3b16154b82465edd62144c0ac1fc5a18506a2244ba449ac4"),
		unhex(t, "e6db6867583030db3594c1a424b15f7c726624ec26b3353b10a903a6d0ab1c4c"),
		"c3da55379de9c6908e94ea4df28d084f32eccf03491c71f754b4075577a28552")
	answers(t,
		unhex(t, "4b66e9d4d1b4673c5ad22691957d6af5c11b6421e0ea01d42ca4169e7918ba0d"),
		unhex(t, "e5210f12786811d3f4b7959d0538ae2c31dbe7106fc03c3efc4cd549c715a493"),
		"95cbde9476e8907d7aade45cb4b873f88b595a68799fa152e6f8f7647aac7957")
}

// P4.1: RFC 7748, 5.2, a thousand times, each one's answer the next one's secret.
func TestMultAThousandTimes(t *testing.T) {
	k, u := number(9), number(9)
	for range 1000 {
		b, e := ladder.Mult(k, u)
		if e != api.OK {
			t.Fatal(e)
		}
		k, u = b, k
	}
	if !bytes.Equal(k, unhex(t, "684cf59ba83309552800ef566f2f4d3c1c3887c49360e3875f2eb94d99532c51")) {
		t.Errorf("%x", k)
	}
}

// P4.1: Mult is the point by itself, by chords and tangents: of points of the
// curve, of those whose v lies in the greater field, and at the edges.
func TestMultByChordsAndTangents(t *testing.T) {
	rnd := rand.New(rand.NewSource(2))
	points := edgePoints()
	for range 30 {
		points = append(points, someBytes(rnd))
	}
	for i, u := range points {
		k := someBytes(rnd)
		if i%4 == 0 {
			k = bytes.Repeat([]byte{byte(i/4) * 0x55}, 32)
		}
		b, e := ladder.Mult(k, u)
		if want := byChords(k, u); e != api.OK || !bytes.Equal(b, want) {
			t.Errorf("Mult(%x, %x): %x, %d, want %x", k, u, b, e, want)
		}
	}
}

// P4.1: the number of k is trimmed, and each of its other bits counts.
func TestMultTrims(t *testing.T) {
	k, u := bytes.Repeat([]byte{0x5A}, 32), number(9)
	was, _ := ladder.Mult(k, u)
	for i := range 256 {
		other := bytes.Clone(k)
		other[i/8] ^= 1 << (i % 8)
		b, e := ladder.Mult(other, u)
		out := i < 3 || i > 253
		if e != api.OK || bytes.Equal(b, was) != out {
			t.Errorf("bit %d: %x, %d", i, b, e)
		}
	}
}

// P4.1: u is a number as layer 3 reads it: without its highest bit, modulo p.
func TestMultReadsU(t *testing.T) {
	rnd := rand.New(rand.NewSource(3))
	k := someBytes(rnd)
	for n := range int64(19) {
		low, _ := ladder.Mult(k, number(n))
		u := lowestFirst(new(big.Int).Add(prime(), big.NewInt(n)))
		for range 2 {
			if b, e := ladder.Mult(k, u); e != api.OK || !bytes.Equal(b, low) {
				t.Errorf("Mult of %x isn't that of %d: %x, %d", u, n, b, e)
			}
			u[31] |= 0x80
		}
	}
	for range 20 {
		u := someBytes(rnd)
		b, _ := ladder.Mult(k, u)
		u[31] ^= 0x80
		if c, _ := ladder.Mult(k, u); !bytes.Equal(b, c) {
			t.Errorf("the highest bit of %x counts", u)
		}
	}
}

// P4.1: of a few points so many times is nothing: 0, whatever the secret.
func TestMultOfPointsThatEnd(t *testing.T) {
	rnd := rand.New(rand.NewSource(4))
	for _, u := range ending(t) {
		for range 3 {
			b, e := ladder.Mult(someBytes(rnd), u)
			if e != api.OK || !bytes.Equal(b, make([]byte, 32)) {
				t.Errorf("Mult of %x: %x, %d", u, b, e)
			}
		}
	}
}

// P4.1: ErrLen, if one of them hasn't 32 bytes; nothing beside it.
func TestOtherLengths(t *testing.T) {
	for n := range 100 {
		b, right := bytes.Repeat([]byte{7}, n), number(9)
		want := api.ErrLen
		if n == 32 {
			want = api.OK
		}
		lengthTold(t, "Mult's k", n, want)(ladder.Mult(b, right))
		lengthTold(t, "Mult's u", n, want)(ladder.Mult(right, b))
		lengthTold(t, "Mult's both", n, want)(ladder.Mult(b, b))
		lengthTold(t, "Public's k", n, want)(ladder.Public(b))
		lengthTold(t, "Shared's k", n, want)(ladder.Shared(b, right))
		lengthTold(t, "Shared's peer", n, want)(ladder.Shared(right, b))
	}
	lengthTold(t, "Mult of nil", 0, api.ErrLen)(ladder.Mult(nil, nil))
	lengthTold(t, "Public of nil", 0, api.ErrLen)(ladder.Public(nil))
	lengthTold(t, "Shared of nil", 0, api.ErrLen)(ladder.Shared(nil, nil))
}

// lengthTold answers a check of what a call answers at n bytes.
func lengthTold(t *testing.T, what string, n int, want api.Errno) func([]byte, api.Errno) {
	return func(b []byte, e api.Errno) {
		t.Helper()
		if e != want || (want == api.OK) != (len(b) == 32) || want != api.OK && b != nil {
			t.Errorf("%s, %d bytes: %x, %d", what, n, b, e)
		}
	}
}

// The fourth rule: what is handed in isn't changed, nor what lies behind it,
// and isn't kept; an answer is new memory.
func TestNothingIsChangedOrKept(t *testing.T) {
	whole := bytes.Repeat([]byte{0xA5}, 128)
	was := bytes.Clone(whole)
	k, u := whole[16:48], whole[64:96]
	calls := map[string]func() ([]byte, api.Errno){
		"Mult":   func() ([]byte, api.Errno) { return ladder.Mult(k, u) },
		"Public": func() ([]byte, api.Errno) { return ladder.Public(k) },
		"Shared": func() ([]byte, api.Errno) { return ladder.Shared(k, u) },
	}
	for name, call := range calls {
		first, _ := call()
		told := bytes.Clone(first)
		clear(first[:cap(first)])
		again, e := call()
		if e != api.OK || !bytes.Equal(again, told) || !bytes.Equal(whole, was) {
			t.Errorf("%s: %x, then %x", name, told, again)
		}
	}
}
