package field_test

import (
	"bytes"
	"math/big"
	"math/rand"
	"testing"

	"tabulary/field"
)

// exponent answers the number of bytes, the lowest first.
func exponent(x []byte) *big.Int {
	n := new(big.Int)
	for i := range x {
		n.Lsh(n, 8).Or(n, big.NewInt(int64(x[len(x)-1-i])))
	}
	return n
}

// powerIs fails the test if Pow isn't what the library reckons.
func powerIs(t *testing.T, e field.Elem, base *big.Int, x []byte) {
	t.Helper()
	numberIs(t, "Pow", e.Pow(x), new(big.Int).Exp(modP(base), exponent(x), prime()))
}

// P3.1: to the power of nothing, or of 0 in any number of bytes, is 1, of 0 too.
func TestPowOfNothing(t *testing.T) {
	for _, x := range edges() {
		e := read(t, x)
		for _, none := range [][]byte{nil, {}, {0}, make([]byte, 32), make([]byte, 100)} {
			numberIs(t, "Pow of nothing", e.Pow(none), big.NewInt(1))
		}
	}
}

// P3.1: exponents that can be counted by hand; the lowest byte is the first.
func TestPowOfFew(t *testing.T) {
	three := field.Small(3)
	for _, c := range []struct {
		x    []byte
		want uint32
	}{
		{[]byte{1}, 3}, {[]byte{2}, 9}, {[]byte{3}, 27}, {[]byte{4}, 81}, {[]byte{5, 0, 0}, 243}, {[]byte{20}, 3486784401},
	} {
		if !three.Pow(c.x).Same(field.Small(c.want)) {
			t.Errorf("3 to the power of %v isn't %d", c.x, c.want)
		}
	}
	by256, product := three.Pow([]byte{0, 1}), field.Small(1)
	for range 256 {
		product = product.Mul(three)
	}
	if !by256.Same(product) {
		t.Error("the bytes 0, 1 aren't 256")
	}
	numberIs(t, "2 to the power of 255", field.Small(2).Pow([]byte{255}), big.NewInt(19))
}

// P3.1: any base, any exponent, longer than 32 bytes too; every bit counts.
func TestPowOfAny(t *testing.T) {
	rnd := rand.New(rand.NewSource(8))
	for _, base := range edges() {
		x := make([]byte, rnd.Intn(40))
		rnd.Read(x)
		powerIs(t, read(t, base), base, x)
		powerIs(t, read(t, base), base, []byte{byte(rnd.Intn(256))})
	}
	base := withoutTop(someNumber(rnd))
	for bit := range 8 * 33 {
		x := make([]byte, 33)
		x[bit/8] = 1 << (bit % 8)
		powerIs(t, read(t, base), base, x)
	}
	powerIs(t, read(t, base), base, bytes.Repeat([]byte{0xFF}, 70))
	powerIs(t, read(t, base), base, append(make([]byte, 40), 1))
}

// P3.1: p - 1 times by itself a number is 1 (but 0), and p times itself.
func TestPowOfThePrime(t *testing.T) {
	x := lowestFirst(prime())
	less := lowestFirst(plus(prime(), -1))
	for _, base := range edges() {
		e := read(t, base)
		numberIs(t, "to the power of p", e.Pow(x[:]), base)
		if modP(base).Sign() != 0 {
			numberIs(t, "to the power of p - 1", e.Pow(less[:]), big.NewInt(1))
		}
	}
}

// P3.1: what times it is 1.
func TestInv(t *testing.T) {
	rnd := rand.New(rand.NewSource(9))
	l := edges()
	for range 100 {
		l = append(l, withoutTop(someNumber(rnd)))
	}
	for _, x := range l {
		e := read(t, x)
		if modP(x).Sign() == 0 {
			numberIs(t, "Inv of 0", e.Inv(), new(big.Int))
			continue
		}
		numberIs(t, "Inv", e.Inv(), new(big.Int).ModInverse(x, prime()))
		numberIs(t, "Inv times it", e.Inv().Mul(e), big.NewInt(1))
		numberIs(t, "Inv of Inv", e.Inv().Inv(), x)
	}
}

// P3.1: the number d of the curve that RFC 8032 publishes, -121665/121666.
func TestInvOfAPublishedNumber(t *testing.T) {
	d := field.Small(0).Sub(field.Small(121665)).Mul(field.Small(121666).Inv())
	hexIs(t, "d", d, "52036cee2b6ffe738cc740797779e89800700a4d4141d8ab75eb4dca135978a3")
}

// rootIs fails the test if Root of e, the number x, isn't a root where there is
// one and false where there is none.
func rootIs(t *testing.T, e field.Elem, x *big.Int) {
	t.Helper()
	root, ok := e.Root()
	if want := big.Jacobi(modP(x), prime()) >= 0; ok != want {
		t.Errorf("Root of %v: %v", x, ok)
	}
	if ok {
		numberIs(t, "Root by itself", root.Mul(root), x)
	}
}

// P3.1: a root of what has one: of a square it is one of the two; and none of
// what hasn't.
func TestRoot(t *testing.T) {
	rnd := rand.New(rand.NewSource(10))
	l := edges()
	for range 200 {
		l = append(l, withoutTop(someNumber(rnd)))
	}
	for n := range int64(40) {
		l = append(l, big.NewInt(n), plus(prime(), -n))
	}
	for _, x := range l {
		e := read(t, x)
		rootIs(t, e, x)
		square := e.Mul(e)
		root, ok := square.Root()
		if !ok || !root.Same(e) && !root.Same(field.Small(0).Sub(e)) {
			t.Errorf("Root of the square of %v", x)
		}
		// 2 has no root, so twice a square has none, but 0.
		if _, ok := square.Add(square).Root(); ok != (modP(x).Sign() == 0) {
			t.Errorf("Root of twice the square of %v: %v", x, ok)
		}
	}
}

// P3.1: of 0 the root is 0, in whichever way it is told; -1 has one, that of
// RFC 8032; 2 and -2 have none.
func TestRootOfFew(t *testing.T) {
	zero, one, two := field.Small(0), field.Small(1), field.Small(2)
	for _, e := range []field.Elem{zero, {}, read(t, prime()), one.Sub(one), two.Sub(one).Sub(one)} {
		root, ok := e.Root()
		if !ok {
			t.Error("0 has no root")
		}
		numberIs(t, "Root of 0", root, new(big.Int))
	}
	root, ok := zero.Sub(one).Root()
	if !ok {
		t.Error("-1 has no root")
	}
	hexIs(t, "Root of -1", field.Pick(root.Odd(), zero.Sub(root), root), "2b8324804fc1df0b2b4d00993dfbd7a72f431806ad2fe478c4ee1b274a0ea0b0")
	for _, e := range []field.Elem{two, zero.Sub(two), read(t, plus(prime(), 2)), read(t, plus(prime(), -2))} {
		if _, ok := e.Root(); ok {
			t.Error("2 or -2 has a root")
		}
	}
}
