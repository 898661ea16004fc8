package cipher

import "testing"

// Single bytes reckoned apart from the package, as the chapter's words have it:
// by long division, by looking for an inverse, and bit by bit.

// productOf answers the product of two polynomials modulo x^8 + x^4 + x^3 + x + 1.
func productOf(a, b int) int {
	product := 0
	for i := range 8 {
		if b>>i&1 == 1 {
			product ^= a << i
		}
	}
	for i := 15; i >= 8; i-- {
		if product>>i&1 == 1 {
			product ^= 0b1_0001_1011 << (i - 8)
		}
	}
	return product
}

// inverseOf answers the inverse of a, and 0 of 0.
func inverseOf(a int) int {
	for b := range 256 {
		if productOf(a, b) == 1 {
			return b
		}
	}
	return 0
}

// otherOf answers the other one of a.
func otherOf(a int) int {
	inverse := inverseOf(a)
	other := 0x63
	for n := range 5 {
		other ^= inverse<<n&0xFF | inverse>>(8-n)
	}
	return other
}

// packed answers eight bytes, 7 apart, of which that at a place is a, and the
// number that they are.
func packed(a, at int) ([8]int, uint64) {
	var bytes [8]int
	var w uint64
	for i := range bytes {
		bytes[i] = (a + 7*(i-at)) & 0xFF
		w |= uint64(bytes[i]) << (8 * i)
	}
	return bytes, w
}

// P6.1: each byte's other one, at each place of eight, whatever stands beside it.
func TestOthers(t *testing.T) {
	var table [256]int
	for a := range table {
		table[a] = otherOf(a)
	}
	// FIPS 197, table 4.
	if table[0] != 0x63 || table[1] != 0x7C || table[0x53] != 0xED || table[0xFF] != 0x16 {
		t.Fatal("the test's own bytes are wrong")
	}
	for a := range 256 {
		for at := range 8 {
			bytes, w := packed(a, at)
			got := others(w)
			for i, b := range bytes {
				if int(got>>(8*i)&0xFF) != table[b] {
					t.Errorf("others(%016X): %016X, byte %d of %02X", w, got, i, b)
				}
			}
		}
	}
}

// P6.1: the products of all bytes, and the squares.
func TestTimes(t *testing.T) {
	for a := range 256 {
		for b := range 256 {
			at := (a + b) % 8
			v, w := uint64(a)<<(8*at), uint64(b)<<(8*at)
			want := uint64(productOf(a, b)) << (8 * at)
			if got := times(v, w); got != want {
				t.Errorf("times(%X, %X): %X, want %X", v, w, got, want)
			}
		}
		v := uint64(a) * lowest
		if squares(v) != uint64(productOf(a, a))*lowest || twice(v) != uint64(productOf(a, 2))*lowest {
			t.Errorf("of %02X: squares %X, twice %X", a, squares(v), twice(v))
		}
	}
}
