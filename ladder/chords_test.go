package ladder_test

import (
	"encoding/hex"
	"math/big"
	"math/rand"
	"testing"
)

// The curve reckoned apart from the package, as the chapter's words have it: by
// chords and tangents.

// prime is p, of the field.
func prime() *big.Int {
	return new(big.Int).Sub(new(big.Int).Lsh(big.NewInt(1), 255), big.NewInt(19))
}

// order is how many points the multiples of 8 on the curve are.
func order() *big.Int {
	l, _ := new(big.Int).SetString("27742317777372353535851937790883648493", 10)
	return l.Add(l, new(big.Int).Lsh(big.NewInt(1), 252))
}

// greaterOrder is how many points the multiples of 4 are, whose v lies in the
// greater field: each u but 0 has two points, of the curve or of those.
func greaterOrder() *big.Int {
	both := new(big.Int).Lsh(new(big.Int).Add(prime(), big.NewInt(1)), 1)
	both.Sub(both, new(big.Int).Lsh(order(), 3))
	return both.Rsh(both, 2)
}

// modP answers x modulo p.
func modP(x *big.Int) *big.Int {
	return new(big.Int).Mod(x, prime())
}

// product answers the product of factors modulo p.
func product(factors ...*big.Int) *big.Int {
	x := big.NewInt(1)
	for _, f := range factors {
		x = modP(x.Mul(x, f))
	}
	return x
}

// sum answers the sum of x and all terms modulo p.
func sum(terms ...*big.Int) *big.Int {
	x := new(big.Int)
	for _, f := range terms {
		x.Add(x, f)
	}
	return modP(x)
}

// minus answers -x.
func minus(x *big.Int) *big.Int {
	return new(big.Int).Neg(x)
}

// A spot is a point, whose v is measured in such a way that it is a number of
// the field, wherever it lies: curve is the square of that measure. No spot at
// all (nil) is the sum of no points.
type spot struct {
	u, v, curve *big.Int
}

// middle is the number of the curve.
func middle() *big.Int {
	return big.NewInt(486662)
}

// spotOf answers a point of u.
func spotOf(u *big.Int) *spot {
	one := big.NewInt(1)
	square := sum(product(u, u, u), product(middle(), u, u), u)
	if square.Sign() == 0 {
		return &spot{u, square, one}
	}
	return &spot{u, one, square}
}

// slope answers how steep the chord or the tangent is; false, if it is upright.
func slope(p, q *spot) (*big.Int, bool) {
	rise, run := sum(q.v, minus(p.v)), sum(q.u, minus(p.u))
	if run.Sign() == 0 {
		rise = sum(product(big.NewInt(3), p.u, p.u), product(big.NewInt(2), middle(), p.u), big.NewInt(1))
		run = product(p.curve, sum(p.v, q.v))
	}
	if run.Sign() == 0 {
		return nil, false
	}
	return product(rise, new(big.Int).ModInverse(run, prime())), true
}

// plus answers the sum of two points.
func plus(p, q *spot) *spot {
	if p == nil {
		return q
	}
	if q == nil {
		return p
	}
	s, ok := slope(p, q)
	if !ok {
		return nil
	}
	u := sum(product(p.curve, s, s), minus(middle()), minus(p.u), minus(q.u))
	v := sum(product(s, sum(p.u, minus(u))), minus(p.v))
	return &spot{u, v, p.curve}
}

// often answers p, n times by itself.
func often(n *big.Int, p *spot) *spot {
	var all *spot
	for i := n.BitLen() - 1; i >= 0; i-- {
		all = plus(all, all)
		if n.Bit(i) == 1 {
			all = plus(all, p)
		}
	}
	return all
}

// byChords answers what Mult of k and u is to be.
func byChords(k, u []byte) []byte {
	all := often(secretNumber(k), spotOf(coordinate(u)))
	if all == nil {
		return make([]byte, 32)
	}
	return lowestFirst(all.u)
}

// secretNumber answers the number of the secret k.
func secretNumber(k []byte) *big.Int {
	n := asNumber(k)
	for _, i := range []int{0, 1, 2, 255} {
		n.SetBit(n, i, 0)
	}
	return n.SetBit(n, 254, 1)
}

// coordinate answers the number that layer 3 reads of u.
func coordinate(u []byte) *big.Int {
	n := asNumber(u)
	return modP(n.SetBit(n, 255, 0))
}

// asNumber answers the number of bytes, the lowest first.
func asNumber(b []byte) *big.Int {
	n := new(big.Int)
	for i := range b {
		n.Lsh(n, 8).Add(n, big.NewInt(int64(b[len(b)-1-i])))
	}
	return n
}

// lowestFirst answers the 32 bytes of n, below 2^256, the lowest first.
func lowestFirst(n *big.Int) []byte {
	b := n.FillBytes(make([]byte, 32))
	for i := range 16 {
		b[i], b[31-i] = b[31-i], b[i]
	}
	return b
}

// number answers the 32 bytes of n.
func number(n int64) []byte {
	return lowestFirst(big.NewInt(n))
}

// unhex answers the bytes of a text in base 16.
func unhex(t *testing.T, s string) []byte {
	t.Helper()
	b, err := hex.DecodeString(s)
	if err != nil {
		t.Fatal(err)
	}
	return b
}

// someBytes answers 32 bytes.
func someBytes(rnd *rand.Rand) []byte {
	b := make([]byte, 32)
	rnd.Read(b)
	return b
}

// edgePoints answers coordinates at which something may go wrong.
func edgePoints() [][]byte {
	var l [][]byte
	for n := range int64(20) {
		l = append(l, number(n))
	}
	for n := int64(-20); n < 19; n++ {
		l = append(l, lowestFirst(new(big.Int).Add(prime(), big.NewInt(n))))
	}
	for i := range uint(32) {
		l = append(l, lowestFirst(new(big.Int).Lsh(big.NewInt(1), 8*i+7)))
	}
	return l
}

// ending answers the points of which 8 times, or 4, is nothing, in each way to
// tell them in 32 bytes.
func ending(t *testing.T) [][]byte {
	t.Helper()
	var l [][]byte
	for _, n := range []int64{0, 1} {
		l = append(l, number(n), lowestFirst(new(big.Int).Add(prime(), big.NewInt(n))))
	}
	l = append(l, lowestFirst(new(big.Int).Sub(prime(), big.NewInt(1))),
		unhex(t, "e0eb7a7c3b41b8ae1656e3faf19fc46ada098deb9c32b1fd866205165f49b800"),
		unhex(t, "5f9c95bca3508c24b1d0b1559c83ef5b04445cc4581c8e86d8224eddd09f1157"))
	for _, u := range l {
		if often(big.NewInt(8), spotOf(coordinate(u))) != nil {
			t.Fatalf("%x doesn't end", u)
		}
		high := append([]byte(nil), u...)
		high[31] |= 0x80
		l = append(l, high)
	}
	return l
}
