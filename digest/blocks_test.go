package digest

import (
	"bytes"
	"math/big"
	"testing"
)

// endingIs fails the test if what follows a text of n bytes isn't what the
// chapter says. Texts that need five bytes for their bits are too long to hash
// in a test, so that this one looks inside.
func endingIs(t *testing.T, n, size int) {
	t.Helper()
	end := ending(n, size)
	room := len(end) - size/8
	if (n+len(end))%size != 0 || room < 1 || room > size {
		t.Errorf("behind %d bytes: %d bytes for blocks of %d", n, len(end), size)
		return
	}
	bits := new(big.Int).Mul(big.NewInt(int64(n)), big.NewInt(8))
	want := append([]byte{0x80}, make([]byte, room-1)...)
	want = append(want, bits.FillBytes(make([]byte, size/8))...)
	if !bytes.Equal(end, want) {
		t.Errorf("behind %d bytes: % x, want % x", n, end, want)
	}
}

// P2.1: a text is followed by 80, as few zeros as may be, and its bits' number.
func TestEnding(t *testing.T) {
	for _, size := range []int{smallBlock, greatBlock} {
		for _, n := range []int{0, 1 << 28, 1<<29 - 200, 1 << 29, 1<<31 - 300} {
			for more := range 300 {
				endingIs(t, n+more, size)
			}
		}
	}
}
