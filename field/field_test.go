package field_test

import (
	"bytes"
	"encoding/hex"
	"math"
	"math/big"
	"math/rand"
	"testing"

	"tabulary/field"
)

// prime is p, reckoned apart from the package.
func prime() *big.Int {
	return plus(twoTo(255), -19)
}

// twoTo answers 2^n.
func twoTo(n uint) *big.Int {
	return new(big.Int).Lsh(big.NewInt(1), n)
}

// plus answers x + n.
func plus(x *big.Int, n int64) *big.Int {
	return new(big.Int).Add(x, big.NewInt(n))
}

// modP answers x modulo p.
func modP(x *big.Int) *big.Int {
	return new(big.Int).Mod(x, prime())
}

// lowestFirst answers the 32 bytes of x, the lowest first.
func lowestFirst(x *big.Int) [32]byte {
	var b [32]byte
	x.FillBytes(b[:])
	for i := range 16 {
		b[i], b[31-i] = b[31-i], b[i]
	}
	return b
}

// read answers the element of x, below 2^256.
func read(t *testing.T, x *big.Int) field.Elem {
	t.Helper()
	b := lowestFirst(x)
	e, ok := field.Read(b[:])
	if !ok {
		t.Fatalf("Read of %v: false", x)
	}
	return e
}

// numberIs fails the test if e isn't want modulo p, by any of the calls that
// tell of a number.
func numberIs(t *testing.T, what string, e field.Elem, want *big.Int) {
	t.Helper()
	want = modP(want)
	if got, b := e.Bytes(), lowestFirst(want); got != b {
		t.Errorf("%s: %x, want %x", what, got, b)
	}
	if e.Odd() != (want.Bit(0) == 1) {
		t.Errorf("%s: Odd of %v is %v", what, want, e.Odd())
	}
	if f := read(t, want); !e.Same(f) || !f.Same(e) {
		t.Errorf("%s: not the same as %v", what, want)
	}
}

// edges are numbers below 2^255 at which something may go wrong.
func edges() []*big.Int {
	var l []*big.Int
	for _, n := range []int64{0, 1, 2, 3, 18, 19, 20, 37, 38, 255, 256, 65535, math.MaxUint32} {
		l = append(l, big.NewInt(n))
	}
	for _, n := range []uint{8, 32, 51, 64, 102, 127, 128, 153, 192, 204, 223, 253, 254} {
		l = append(l, plus(twoTo(n), -1), twoTo(n), plus(twoTo(n), 1))
	}
	for n := int64(-3); n < 19; n++ {
		l = append(l, plus(prime(), n))
	}
	half := new(big.Int).Rsh(prime(), 1)
	return append(l, half, plus(half, 1))
}

// someNumber answers a number below 2^256; some have long runs of one bit.
func someNumber(rnd *rand.Rand) *big.Int {
	x := new(big.Int).Rand(rnd, twoTo(256))
	if rnd.Intn(3) == 0 {
		x.Rsh(x, uint(rnd.Intn(256)))
	}
	if rnd.Intn(3) == 0 {
		x.Or(x, plus(twoTo(uint(rnd.Intn(257))), -1))
	}
	return x
}

// withoutTop answers x without bit 255.
func withoutTop(x *big.Int) *big.Int {
	return new(big.Int).SetBit(x, 255, 0)
}

// P3.1: Small is that number.
func TestSmall(t *testing.T) {
	for _, n := range []uint32{0, 1, 2, 18, 19, 255, 256, 1 << 16, 1 << 31, math.MaxUint32 - 1, math.MaxUint32} {
		numberIs(t, "Small", field.Small(n), big.NewInt(int64(n)))
	}
	for i := range 32 {
		numberIs(t, "Small", field.Small(1<<i), twoTo(uint(i)))
	}
}

// P3.1: an element that is declared alone is 0.
func TestDeclaredAlone(t *testing.T) {
	var e field.Elem
	zero := new(big.Int)
	numberIs(t, "alone", e, zero)
	numberIs(t, "alone, Add", e.Add(e), zero)
	numberIs(t, "alone, Sub", field.Small(5).Sub(e), big.NewInt(5))
	numberIs(t, "alone, Mul", e.Mul(field.Small(5)), zero)
	numberIs(t, "alone, Inv", e.Inv(), zero)
}

// P3.1: Read takes 32 bytes, no more and no fewer.
func TestReadOfOtherLengths(t *testing.T) {
	if e, ok := field.Read(nil); ok || e != (field.Elem{}) {
		t.Error("Read of nil isn't 0, false")
	}
	for n := range 100 {
		e, ok := field.Read(bytes.Repeat([]byte{7}, n))
		if ok != (n == 32) {
			t.Errorf("Read of %d bytes: %v", n, ok)
		}
		if !ok && (e.Bytes() != [32]byte{} || e != (field.Elem{})) {
			t.Errorf("Read of %d bytes: false, and not 0", n)
		}
	}
}

// P3.1: the chapter's example, p + 1, is 1.
func TestReadOfTheExample(t *testing.T) {
	b := bytes.Repeat([]byte{0xFF}, 32)
	b[0], b[31] = 0xEE, 0x7F
	e, ok := field.Read(b)
	if !ok || e.Bytes() != [32]byte{1} || !e.Odd() || !e.Same(field.Small(1)) {
		t.Errorf("% x", e.Bytes())
	}
}

// P3.1: Read and Bytes, modulo p, with the highest bit in or out.
func TestReadAndBytes(t *testing.T) {
	rnd := rand.New(rand.NewSource(1))
	l := edges()
	for range 300 {
		l = append(l, withoutTop(someNumber(rnd)))
	}
	for i := range uint(255) {
		l = append(l, twoTo(i))
	}
	for _, x := range l {
		numberIs(t, "Read", read(t, x), x)
		numberIs(t, "Read with the highest bit", read(t, new(big.Int).SetBit(x, 255, 1)), x)
	}
	numberIs(t, "Read of the highest bit alone", read(t, twoTo(255)), new(big.Int))
}

// P3.1: Same asks for the number, in whichever way it came about.
func TestSame(t *testing.T) {
	for i, x := range edges() {
		for j, y := range edges() {
			want := modP(x).Cmp(modP(y)) == 0
			if read(t, x).Same(read(t, y)) != want {
				t.Errorf("Same of edges %d and %d isn't %v", i, j, want)
			}
		}
	}
	// 0 to 18 have two ways to be read.
	for n := range uint32(19) {
		if !field.Small(n).Same(read(t, plus(prime(), int64(n)))) {
			t.Errorf("p + %d isn't %d", n, n)
		}
	}
}

// P3.1: one bit that differs is enough, wherever it stands.
func TestSameLooksAtEachBit(t *testing.T) {
	x := modP(new(big.Int).Rand(rand.New(rand.NewSource(2)), prime()))
	for i := range 255 {
		y := new(big.Int).SetBit(x, i, x.Bit(i)^1)
		if modP(y).Cmp(x) != 0 && read(t, x).Same(read(t, y)) {
			t.Errorf("bit %d isn't looked at", i)
		}
	}
}

// P3.1: Odd is of the number below p, though another way to tell it be even.
func TestOdd(t *testing.T) {
	for _, c := range []struct {
		n    int64 // beyond p
		want bool
	}{
		{-3, false}, {-2, true}, {-1, false}, {0, false}, {1, true}, {2, false}, {17, true}, {18, false},
	} {
		if read(t, plus(prime(), c.n)).Odd() != c.want {
			t.Errorf("Odd of p + %d isn't %v", c.n, c.want)
		}
	}
	one := field.Small(1)
	if !one.Odd() || field.Small(2).Odd() || field.Small(0).Sub(one).Odd() || one.Sub(one).Odd() {
		t.Error("Odd of 1, 2, -1 or 0")
	}
}

// P3.1: Pick answers the first one, if so, else the second one.
func TestPick(t *testing.T) {
	rnd := rand.New(rand.NewSource(3))
	l := edges()
	for range 100 {
		l = append(l, withoutTop(someNumber(rnd)))
	}
	for i := range l {
		x, y := l[i], l[(i+7)%len(l)]
		e, f := read(t, x), read(t, y)
		numberIs(t, "Pick, so", field.Pick(true, e, f), x)
		numberIs(t, "Pick, not so", field.Pick(false, e, f), y)
		numberIs(t, "Pick of one twice", field.Pick(i%2 == 0, e, e), x)
		numberIs(t, "the first one behind it", e, x)
		numberIs(t, "the second one behind it", f, y)
	}
}

// The fourth and the eighth rule: nothing that is handed in is changed or kept,
// the room behind it neither; the same is answered again.
func TestNothingIsChangedOrKept(t *testing.T) {
	whole := bytes.Repeat([]byte{0xA5}, 96)
	e, _ := field.Read(whole[:32])
	was := e.Bytes()
	power := e.Pow(whole[32:35]).Bytes()
	if !bytes.Equal(whole, bytes.Repeat([]byte{0xA5}, 96)) {
		t.Error("bytes were changed")
	}
	clear(whole[:32])
	if e.Bytes() != was {
		t.Error("an element hangs on the bytes that it was read of")
	}
	f := e
	f.Add(e)
	f.Sub(e)
	f.Mul(e)
	f.Inv()
	f.Root()
	f.Odd()
	told := f.Bytes()
	told[0]++
	if f != e || f.Bytes() != was || e.Pow(whole[32:35]).Bytes() != power {
		t.Error("a call changed its element")
	}
}

// hexIs fails the test if e's bytes, the highest first, aren't want in base 16.
func hexIs(t *testing.T, what string, e field.Elem, want string) {
	t.Helper()
	b := e.Bytes()
	for i := range 16 {
		b[i], b[31-i] = b[31-i], b[i]
	}
	if got := hex.EncodeToString(b[:]); got != want {
		t.Errorf("%s: %s, want %s", what, got, want)
	}
}
