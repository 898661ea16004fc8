package field_test

import (
	"math/big"
	"math/rand"
	"testing"

	"tabulary/field"
)

// sumsAre fails the test if a sum, a difference or a product isn't that of x
// and y.
func sumsAre(t *testing.T, what string, e, f field.Elem, x, y *big.Int) {
	t.Helper()
	numberIs(t, what+", Add", e.Add(f), new(big.Int).Add(x, y))
	numberIs(t, what+", Sub", e.Sub(f), new(big.Int).Sub(x, y))
	numberIs(t, what+", Mul", e.Mul(f), new(big.Int).Mul(x, y))
}

// P3.1: the sum, the difference and the product of small numbers.
func TestSumsOfSmall(t *testing.T) {
	for _, c := range []struct{ x, y, sum, product uint32 }{
		{0, 0, 0, 0}, {0, 7, 7, 0}, {1, 7, 8, 7}, {3, 5, 8, 15}, {19, 19, 38, 361}, {65535, 65535, 131070, 4294836225},
	} {
		e, f := field.Small(c.x), field.Small(c.y)
		if !e.Add(f).Same(field.Small(c.sum)) || !e.Mul(f).Same(field.Small(c.product)) {
			t.Errorf("%d and %d", c.x, c.y)
		}
		if !field.Small(c.sum).Sub(f).Same(e) || !field.Small(c.sum).Sub(e).Same(f) {
			t.Errorf("%d less %d", c.sum, c.y)
		}
	}
	hexIs(t, "3 - 5", field.Small(3).Sub(field.Small(5)), "7fffffffffffffffffffffffffffffffffffffffffffffffffffffffffffffeb")
}

// P3.1: those of all edges with all edges, p and more among them.
func TestSumsOfEdges(t *testing.T) {
	for _, x := range edges() {
		for _, y := range edges() {
			sumsAre(t, "edges", read(t, x), read(t, y), x, y)
		}
	}
}

// P3.1: those of any numbers; an element with itself, too.
func TestSumsOfAny(t *testing.T) {
	rnd := rand.New(rand.NewSource(5))
	for range 2000 {
		x, y := withoutTop(someNumber(rnd)), withoutTop(someNumber(rnd))
		e, f := read(t, x), read(t, y)
		sumsAre(t, "any", e, f, x, y)
		sumsAre(t, "any with itself", e, e, x, x)
	}
}

// P3.1: one bit of each, wherever it stands: so every product of two parts is
// seen alone.
func TestMulOfSingleBits(t *testing.T) {
	for i := range uint(255) {
		for j := uint(0); j < 255; j += 5 {
			got := read(t, twoTo(i)).Mul(read(t, twoTo(j))).Bytes()
			if got != lowestFirst(modP(twoTo(i+j))) {
				t.Errorf("2^%d times 2^%d", i, j)
			}
		}
	}
}

// P3.1, for all that came of them: whatever calls, one on the other's answer,
// a number is never read anew between them.
func TestLongChains(t *testing.T) {
	rnd := rand.New(rand.NewSource(6))
	elems, numbers := make([]field.Elem, 8), make([]*big.Int, 8)
	for i := range elems {
		numbers[i] = withoutTop(someNumber(rnd))
		elems[i] = read(t, numbers[i])
	}
	for n := range 20000 {
		i, j, to := rnd.Intn(8), rnd.Intn(8), rnd.Intn(8)
		e, f, x, y := elems[i], elems[j], numbers[i], numbers[j]
		switch rnd.Intn(7) {
		case 0, 1:
			elems[to], numbers[to] = e.Add(f), modP(new(big.Int).Add(x, y))
		case 2, 3:
			elems[to], numbers[to] = e.Sub(f), modP(new(big.Int).Sub(x, y))
		case 4:
			elems[to], numbers[to] = e.Mul(f), modP(new(big.Int).Mul(x, y))
		case 5:
			elems[to], numbers[to] = field.Pick(n%2 == 0, e, f), map[bool]*big.Int{true: x, false: y}[n%2 == 0]
		case 6: // small ones, and those next to p, don't come about by chance
			k := rnd.Intn(len(edges()))
			elems[to], numbers[to] = read(t, edges()[k]), edges()[k]
		}
		if numberIs(t, "chain", elems[to], numbers[to]); t.Failed() {
			t.Fatalf("at call %d", n)
		}
	}
}

// P3.1, for all that came of them: the greatest parts that sums, differences
// and products leave, used again and again.
func TestGreatestParts(t *testing.T) {
	for _, x := range edges() {
		e := read(t, x)
		sum, less, product := e, e, e
		ofSum, ofLess, ofProduct := x, x, x
		for range 100 {
			sum, ofSum = sum.Add(sum), modP(new(big.Int).Add(ofSum, ofSum))
			less, ofLess = field.Small(0).Sub(less).Sub(sum), modP(new(big.Int).Neg(new(big.Int).Add(ofLess, ofSum)))
			product, ofProduct = product.Mul(sum).Mul(less), modP(new(big.Int).Mul(new(big.Int).Mul(ofProduct, ofSum), ofLess))
			numberIs(t, "Add again", sum, ofSum)
			numberIs(t, "Sub again", less, ofLess)
			numberIs(t, "Mul again", product, ofProduct)
			numberIs(t, "Mul by itself", less.Mul(less), new(big.Int).Mul(ofLess, ofLess))
		}
	}
}

// P3.1: a difference of the same number is 0, by Bytes, Same and Odd, though it
// came about as p.
func TestNothingIsLeft(t *testing.T) {
	zero := new(big.Int)
	for _, x := range edges() {
		e := read(t, x)
		negative := field.Small(0).Sub(e)
		numberIs(t, "x - x", e.Sub(e), zero)
		numberIs(t, "x + -x", e.Add(negative), zero)
		numberIs(t, "-x + x", negative.Add(e), zero)
		numberIs(t, "- -x", field.Small(0).Sub(negative), x)
		numberIs(t, "x * 0", e.Mul(field.Small(0)), zero)
		numberIs(t, "x * p", e.Mul(read(t, prime())), zero)
		numberIs(t, "x * 1", e.Mul(field.Small(1)), x)
	}
}
