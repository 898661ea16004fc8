package twist

import "math/bits"

const (
	words = 4   // of a number
	width = 64  // the bits of a word
	top   = 252 // the highest bit of L
)

// A number is below L, as four words, the lowest first. What is reckoned of it
// does the same, whatever it is: its time doesn't tell a secret.
type number [words]uint64

// order is L, the base's order.
var order = [words]uint64{0x5812631A5CF5D3ED, 0x14DEF9DEA2F79CD6, 0, 0x1000000000000000}

// modulo answers the number of bytes, the lowest first, modulo L.
func modulo(b []byte) number {
	var n number
	for i := 8*len(b) - 1; i >= 0; i-- {
		bit := uint64(b[i/8] >> (i % 8) & 1)
		n = n.plus(n).plus(number{bit})
	}
	return n
}

// bytes answers the 32 bytes of n, the lowest first.
func (n number) bytes() [size]byte {
	var b [size]byte
	for i := range size {
		b[i] = byte(n[i/8] >> (i % 8 * 8))
	}
	return b
}

// bit answers bit i of n, 0 or 1.
func (n number) bit(i int) uint64 {
	return n[i/width] >> (i % width) & 1
}

// plus answers the sum modulo L.
func (n number) plus(m number) number {
	var sum, less number
	var carry, under uint64
	for i := range words {
		sum[i], carry = bits.Add64(n[i], m[i], carry)
		less[i], under = bits.Sub64(sum[i], order[i], under)
	}
	// The sum is below 2L, and it is below L just if taking L away goes under 0.
	for i := range words {
		less[i] ^= -under & (sum[i] ^ less[i])
	}
	return less
}

// times answers the product modulo L.
func (n number) times(m number) number {
	var product number
	for i := top; i >= 0; i-- {
		product = product.plus(product).plus(m.if1(n.bit(i)))
	}
	return product
}

// if1 answers n, if bit is 1, and 0, if it is 0.
func (n number) if1(bit uint64) number {
	for i := range words {
		n[i] &= -bit
	}
	return n
}
