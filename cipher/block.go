package cipher

import "math/bits"

const (
	rounds  = 10
	columns = 4
)

// A block is its columns: each is four bytes, that of row 0 the highest. A
// word of the key is such a column.
type block [columns]uint32

// blockOf answers the block of its bytes.
func blockOf(b [size]byte) block {
	var c block
	for i, x := range b {
		c[i/columns] = c[i/columns]<<8 | uint32(x)
	}
	return c
}

// bytes answers the bytes of c.
func (c block) bytes() [size]byte {
	var b [size]byte
	for i := range b {
		b[i] = byte(c[i/columns] >> (24 - 8*(i%columns)))
	}
	return b
}

// keysOf answers the key's words, four by four.
func keysOf(key [size]byte) [rounds + 1]block {
	var keys [rounds + 1]block
	keys[0] = blockOf(key)
	power := uint64(1) << 24 // of x, as the first byte of a word
	for i := range rounds {
		t := bits.RotateLeft32(keys[i][columns-1], 8)
		t = uint32(others(uint64(t)) ^ power)
		for j, word := range keys[i] {
			t ^= word
			keys[i+1][j] = t
		}
		power = twice(power)
	}
	return keys
}

// under answers c, enciphered.
func (c block) under(keys [rounds + 1]block) block {
	c = c.xor(keys[0])
	for i := 1; i < rounds; i++ {
		c = c.others().shifted().mixed().xor(keys[i])
	}
	return c.others().shifted().xor(keys[rounds])
}

// xor answers c xor a key's words.
func (c block) xor(key block) block {
	for i := range c {
		c[i] ^= key[i]
	}
	return c
}

// others answers c with each byte's other one, two columns at once.
func (c block) others() block {
	for i := 0; i < columns; i += 2 {
		w := others(uint64(c[i])<<32 | uint64(c[i+1]))
		c[i], c[i+1] = uint32(w>>32), uint32(w)
	}
	return c
}

// shifted answers c with row r turned to the left by r columns.
func (c block) shifted() block {
	var d block
	for i := range d {
		for r := range columns {
			row := uint32(0xFF) << (24 - 8*r)
			d[i] |= c[(i+r)%columns] & row
		}
	}
	return d
}

// mixed answers c with each column's bytes mixed: 2a+3b+c+d is 2(a+b)+b+c+d,
// and each of the others is the same of the column, turned.
func (c block) mixed() block {
	for i, a := range c {
		b := bits.RotateLeft32(a, 8)
		both := twice(uint64(a ^ b))
		c[i] = uint32(both) ^ b ^ bits.RotateLeft32(a, 16) ^ bits.RotateLeft32(a, 24)
	}
	return c
}
