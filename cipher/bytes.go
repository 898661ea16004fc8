package cipher

// Bytes are polynomials of bits, modulo x^8 + x^4 + x^3 + x + 1, eight of them
// in a number. They are reckoned, not looked up in a table of all bytes, and
// the same is done whatever they are: where a table is read can be told by the
// time that it takes, and would tell the key.

const (
	lowest = 0x0101010101010101 // the lowest bit of each byte
	wrap   = 0x1B               // what x^8 is
)

// squareOf is the squares of the powers of x, from 1 on.
var squareOf = [8]uint64{0x01, 0x04, 0x10, 0x40, 0x1B, 0x6C, 0xAB, 0x9A}

// others answers each byte's other one.
func others(w uint64) uint64 {
	w = inverses(w)
	return w ^ turnedLeft(w, 1) ^ turnedLeft(w, 2) ^ turnedLeft(w, 3) ^ turnedLeft(w, 4) ^ lowest*0x63
}

// turnedLeft answers each byte turned to the left by n bits.
func turnedLeft(w uint64, n int) uint64 {
	low := uint64(lowest) * (1<<n - 1) // the bits that come round
	return w<<n&^low | w>>(8-n)&low
}

// inverses answers each byte's inverse, and 0 of 0: its power of 254.
func inverses(w uint64) uint64 {
	to2 := squares(w)
	to3 := times(to2, w)
	to12 := squares(squares(to3))
	to15 := times(to12, to3)
	to240 := squares(squares(squares(squares(to15))))
	return times(times(to240, to12), to2)
}

// squares answers each byte times itself: in a square of a sum nothing is left
// but the squares.
func squares(w uint64) uint64 {
	var sum uint64
	for i, square := range squareOf {
		sum ^= w >> i & lowest * square
	}
	return sum
}

// times answers the products of the bytes of v and w.
func times(v, w uint64) uint64 {
	var sum uint64
	for i := 7; i >= 0; i-- {
		bit := w >> i & lowest
		sum = twice(sum) ^ v&(bit*0xFF)
	}
	return sum
}

// twice answers each byte times x.
func twice(w uint64) uint64 {
	over := w >> 7 & lowest
	return w<<1&^lowest ^ over*wrap
}
