package digest

import "math/bits"

const (
	smallBlock  = 64
	smallRounds = 64
)

// small answers the small hash of the parts, one behind the other.
func small(parts ...[]byte) [32]byte {
	var state [8]uint32
	for i := range state {
		state[i] = uint32(squareRoots[i] >> 32)
	}
	eachBlock(smallBlock, parts, func(block []byte) {
		state = smallBehind(state, block)
	})
	var sum [32]byte
	for i := range sum {
		sum[i] = byte(state[i/4] >> (24 - 8*(i%4)))
	}
	return sum
}

// smallBehind answers the state behind one more block.
func smallBehind(state [8]uint32, block []byte) [8]uint32 {
	words := smallWords(block)
	a, b, c, d := state[0], state[1], state[2], state[3]
	e, f, g, h := state[4], state[5], state[6], state[7]
	for i := range words {
		root := uint32(cubeRoots[i] >> 32)
		turned := bits.RotateLeft32(e, -6) ^ bits.RotateLeft32(e, -11) ^ bits.RotateLeft32(e, -25)
		t := h + turned + (e&f ^ ^e&g) + root + words[i]
		turned = bits.RotateLeft32(a, -2) ^ bits.RotateLeft32(a, -13) ^ bits.RotateLeft32(a, -22)
		u := turned + (a&b | a&c | b&c)
		a, b, c, d, e, f, g, h = t+u, a, b, c, d+t, e, f, g
	}
	return [8]uint32{
		state[0] + a, state[1] + b, state[2] + c, state[3] + d,
		state[4] + e, state[5] + f, state[6] + g, state[7] + h,
	}
}

// smallWords answers a block's words: sixteen of its own, and those made of them.
func smallWords(block []byte) [smallRounds]uint32 {
	var words [smallRounds]uint32
	for i, x := range block {
		words[i/4] = words[i/4]<<8 | uint32(x)
	}
	for i := 16; i < smallRounds; i++ {
		x, y := words[i-15], words[i-2]
		p := bits.RotateLeft32(x, -7) ^ bits.RotateLeft32(x, -18) ^ x>>3
		q := bits.RotateLeft32(y, -17) ^ bits.RotateLeft32(y, -19) ^ y>>10
		words[i] = words[i-16] + words[i-7] + p + q
	}
	return words
}
