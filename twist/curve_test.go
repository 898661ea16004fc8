package twist_test

import (
	"bytes"
	"crypto/sha512"
	"encoding/hex"
	"math/big"
	"math/rand"
	"slices"
	"testing"
)

// The curve reckoned apart from the package, as the chapter's words have it: by
// the sum of two points.

// prime is p, of the field.
func prime() *big.Int {
	return new(big.Int).Sub(new(big.Int).Lsh(big.NewInt(1), 255), big.NewInt(19))
}

// order is L.
func order() *big.Int {
	l, _ := new(big.Int).SetString("27742317777372353535851937790883648493", 10)
	return l.Add(l, new(big.Int).Lsh(big.NewInt(1), 252))
}

// modP answers x modulo p.
func modP(x *big.Int) *big.Int {
	return new(big.Int).Mod(x, prime())
}

// modL answers x modulo L.
func modL(x *big.Int) *big.Int {
	return new(big.Int).Mod(x, order())
}

// product answers the product of factors modulo p.
func product(factors ...*big.Int) *big.Int {
	x := big.NewInt(1)
	for _, f := range factors {
		x = modP(x.Mul(x, f))
	}
	return x
}

// sum answers the sum of terms modulo p.
func sum(terms ...*big.Int) *big.Int {
	x := new(big.Int)
	for _, f := range terms {
		x.Add(x, f)
	}
	return modP(x)
}

// minus answers -x.
func minus(x *big.Int) *big.Int {
	return new(big.Int).Neg(x)
}

// quotient answers x/y modulo p.
func quotient(x, y *big.Int) *big.Int {
	return product(x, new(big.Int).ModInverse(modP(y), prime()))
}

// curve is d.
var curve = quotient(big.NewInt(-121665), big.NewInt(121666))

// A spot is a point of the curve.
type spot struct {
	x, y *big.Int
}

// zeroSpot is the sum of no points.
func zeroSpot() spot {
	return spot{new(big.Int), big.NewInt(1)}
}

// plus answers the sum of two points.
func plus(p, q spot) spot {
	one, xx, yy := big.NewInt(1), product(p.x, q.x), product(p.y, q.y)
	all := product(curve, xx, yy)
	return spot{
		quotient(sum(product(p.x, q.y), product(q.x, p.y)), sum(one, all)),
		quotient(sum(yy, xx), sum(one, minus(all))),
	}
}

// often answers p, n times by itself.
func often(n *big.Int, p spot) spot {
	all := zeroSpot()
	for i := n.BitLen() - 1; i >= 0; i-- {
		all = plus(all, all)
		if n.Bit(i) == 1 {
			all = plus(all, p)
		}
	}
	return all
}

// opposite answers the point that added to p is nothing.
func opposite(p spot) spot {
	return spot{modP(minus(p.x)), p.y}
}

// spotWith answers the point of y whose x is odd or even, as asked; false, if
// there is none.
func spotWith(y *big.Int, odd uint) (spot, bool) {
	one, yy := big.NewInt(1), product(y, y)
	x := new(big.Int).ModSqrt(quotient(sum(yy, minus(one)), sum(product(curve, yy), one)), prime())
	if x == nil || x.Sign() == 0 && odd == 1 {
		return spot{}, false
	}
	if x.Bit(0) != odd {
		x = modP(minus(x))
	}
	return spot{x, modP(y)}, true
}

// baseSpot is B.
func baseSpot() spot {
	b, _ := spotWith(quotient(big.NewInt(4), big.NewInt(5)), 0)
	return b
}

// ofBase answers B, n times by itself.
func ofBase(n *big.Int) spot {
	return often(n, baseSpot())
}

// ofEight answers a point of which 8 times is nothing, and 4 times isn't.
func ofEight() spot {
	for y := int64(2); ; y++ {
		p, ok := spotWith(big.NewInt(y), 0)
		if !ok {
			continue
		}
		p = often(order(), p)
		if often(big.NewInt(4), p).y.Cmp(big.NewInt(1)) != 0 {
			return p
		}
	}
}

// spotOf answers the point whose bytes b is; false, if b isn't a point's.
func spotOf(b []byte) (spot, bool) {
	if len(b) != 32 {
		return spot{}, false
	}
	y := asNumber(b)
	odd := y.Bit(255)
	y.SetBit(y, 255, 0)
	if y.Cmp(prime()) >= 0 {
		return spot{}, false
	}
	return spotWith(y, odd)
}

// bytesOf answers a point's bytes.
func bytesOf(p spot) []byte {
	return lowestFirst(new(big.Int).SetBit(p.y, 255, p.x.Bit(0)))
}

// hashOf answers the great hash of parts as a number that isn't yet taken
// modulo L.
func hashOf(parts ...[]byte) *big.Int {
	hash := sha512.Sum512(slices.Concat(parts...))
	return asNumber(hash[:])
}

// seedNumber answers a seed's number.
func seedNumber(seed []byte) *big.Int {
	hash := sha512.Sum512(seed)
	n := asNumber(hash[:32])
	for _, i := range []int{0, 1, 2, 255} {
		n.SetBit(n, i, 0)
	}
	return n.SetBit(n, 254, 1)
}

// signatureBy answers what Sign of seed and msg is to be.
func signatureBy(seed, msg []byte) []byte {
	hash := sha512.Sum512(seed)
	s, r := seedNumber(seed), modL(hashOf(hash[32:], msg))
	first := bytesOf(ofBase(r))
	k := modL(hashOf(first, bytesOf(ofBase(s)), msg))
	return slices.Concat(first, lowestFirst(modL(k.Mul(k, s).Add(k, r))))
}

// verifiedBy answers what Verify is to answer.
func verifiedBy(pub, msg, sig []byte) bool {
	p, ok := spotOf(pub)
	if !ok || len(sig) != 64 || asNumber(sig[32:]).Cmp(order()) >= 0 {
		return false
	}
	k := modL(hashOf(sig[:32], pub, msg))
	all := plus(ofBase(asNumber(sig[32:])), often(k, opposite(p)))
	return bytes.Equal(bytesOf(all), sig[:32])
}

// asNumber answers the number of bytes, the lowest first.
func asNumber(b []byte) *big.Int {
	n := new(big.Int)
	for i := range b {
		n.Lsh(n, 8).Add(n, big.NewInt(int64(b[len(b)-1-i])))
	}
	return n
}

// lowestFirst answers the 32 bytes of n, below 2^256, the lowest first.
func lowestFirst(n *big.Int) []byte {
	b := n.FillBytes(make([]byte, 32))
	slices.Reverse(b)
	return b
}

// nearPrime answers the 32 bytes of p + n.
func nearPrime(n int64) []byte {
	return lowestFirst(new(big.Int).Add(prime(), big.NewInt(n)))
}

// withTop answers b with bit 255 set.
func withTop(b []byte) []byte {
	b = bytes.Clone(b)
	b[31] |= 0x80
	return b
}

// unhex answers the bytes of a text in base 16.
func unhex(t *testing.T, s string) []byte {
	t.Helper()
	b, err := hex.DecodeString(s)
	if err != nil {
		t.Fatal(err)
	}
	return b
}

// someBytes answers n bytes.
func someBytes(rnd *rand.Rand, n int) []byte {
	b := make([]byte, n)
	rnd.Read(b)
	return b
}

// edgeSeeds answers seeds at which something may go wrong, and some others.
func edgeSeeds(rnd *rand.Rand, others int) [][]byte {
	l := [][]byte{make([]byte, 32), bytes.Repeat([]byte{0xFF}, 32), lowestFirst(big.NewInt(1)), lowestFirst(order())}
	for range others {
		l = append(l, someBytes(rnd, 32))
	}
	return l
}
