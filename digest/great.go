package digest

import "math/bits"

const (
	greatBlock  = 128
	greatRounds = 80
)

// great answers the great hash of b.
func great(b []byte) [64]byte {
	var state [8]uint64
	for i := range state {
		state[i] = squareRoots[i]
	}
	eachBlock(greatBlock, [][]byte{b}, func(block []byte) {
		state = greatBehind(state, block)
	})
	var sum [64]byte
	for i := range sum {
		sum[i] = byte(state[i/8] >> (56 - 8*(i%8)))
	}
	return sum
}

// greatBehind answers the state behind one more block.
func greatBehind(state [8]uint64, block []byte) [8]uint64 {
	words := greatWords(block)
	a, b, c, d := state[0], state[1], state[2], state[3]
	e, f, g, h := state[4], state[5], state[6], state[7]
	for i := range words {
		turned := bits.RotateLeft64(e, -14) ^ bits.RotateLeft64(e, -18) ^ bits.RotateLeft64(e, -41)
		t := h + turned + (e&f ^ ^e&g) + cubeRoots[i] + words[i]
		turned = bits.RotateLeft64(a, -28) ^ bits.RotateLeft64(a, -34) ^ bits.RotateLeft64(a, -39)
		u := turned + (a&b | a&c | b&c)
		a, b, c, d, e, f, g, h = t+u, a, b, c, d+t, e, f, g
	}
	return [8]uint64{
		state[0] + a, state[1] + b, state[2] + c, state[3] + d,
		state[4] + e, state[5] + f, state[6] + g, state[7] + h,
	}
}

// greatWords answers a block's words: sixteen of its own, and those made of them.
func greatWords(block []byte) [greatRounds]uint64 {
	var words [greatRounds]uint64
	for i, x := range block {
		words[i/8] = words[i/8]<<8 | uint64(x)
	}
	for i := 16; i < greatRounds; i++ {
		x, y := words[i-15], words[i-2]
		p := bits.RotateLeft64(x, -1) ^ bits.RotateLeft64(x, -8) ^ x>>7
		q := bits.RotateLeft64(y, -19) ^ bits.RotateLeft64(y, -61) ^ y>>6
		words[i] = words[i-16] + words[i-7] + p + q
	}
	return words
}
