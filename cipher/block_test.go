package cipher_test

import (
	"bytes"
	"crypto/aes"
	"encoding/hex"
	"math/rand"
	"testing"

	"tabulary/api"
	"tabulary/cipher"
)

// unhex answers the bytes of a text in base 16.
func unhex(t *testing.T, s string) []byte {
	t.Helper()
	b, err := hex.DecodeString(s)
	if err != nil {
		t.Fatal(err)
	}
	return b
}

// someBytes answers n bytes of any kind.
func someBytes(rnd *rand.Rand, n int) []byte {
	b := make([]byte, n)
	rnd.Read(b)
	return b
}

// stream answers a stream of a key and a counter.
func stream(t *testing.T, key, count []byte) *cipher.Stream {
	t.Helper()
	s, e := cipher.New(key, count)
	if s == nil || e != api.OK {
		t.Fatalf("New(%x, %x): %v, %d", key, count, s, e)
	}
	return s
}

// blockIs fails the test if the block of b isn't want.
func blockIs(t *testing.T, key, b, want []byte) {
	t.Helper()
	got := stream(t, key, make([]byte, 16)).Block([16]byte(b))
	if !bytes.Equal(got[:], want) {
		t.Errorf("under %x the block %x is %x, want %x", key, b, got, want)
	}
}

// blockIsTheLibrarys fails the test if the block of b isn't that of the library.
func blockIsTheLibrarys(t *testing.T, key, b []byte) {
	t.Helper()
	a, err := aes.NewCipher(key)
	if err != nil {
		t.Fatal(err)
	}
	want := make([]byte, 16)
	a.Encrypt(want, b)
	blockIs(t, key, b, want)
}

// P6.1: the blocks of FIPS 197, B and C.1, and of SP 800-38A, F.1.1.
func TestBlocksThatArePublished(t *testing.T) {
	for _, c := range []struct{ key, block, want string }{
		{"2b7e151628aed2a6abf7158809cf4f3c", "3243f6a8885a308d313198a2e0370734", "3925841d02dc09fbdc118597196a0b32"},
		{"000102030405060708090a0b0c0d0e0f", "00112233445566778899aabbccddeeff", "69c4e0d86a7b0430d8cdb78070b4c55a"},
		{"2b7e151628aed2a6abf7158809cf4f3c", "6bc1bee22e409f96e93d7e117393172a", "3ad77bb40d7a3660a89ecaf32466ef97"},
		{"2b7e151628aed2a6abf7158809cf4f3c", "ae2d8a571e03ac9c9eb76fac45af8e51", "f5d3d58503b9699de785895a96fdbaaf"},
		{"2b7e151628aed2a6abf7158809cf4f3c", "30c81c46a35ce411e5fbc1191a0a52ef", "43b1cd7f598ece23881b00e3ed030688"},
		{"2b7e151628aed2a6abf7158809cf4f3c", "f69f2445df4f9b17ad2b417be66c3710", "7b0c785e27e8ad3f8223207104725dd4"},
		{"00000000000000000000000000000000", "00000000000000000000000000000000", "66e94bd4ef8a2c3b884cfa59ca342b2e"},
	} {
		blockIs(t, unhex(t, c.key), unhex(t, c.block), unhex(t, c.want))
	}
}

// P6.1: each bit of a key and of a block, alone and among all the others.
func TestBlockOfEachBit(t *testing.T) {
	for _, fill := range []byte{0x00, 0xFF} {
		same := bytes.Repeat([]byte{fill}, 16)
		blockIsTheLibrarys(t, same, same)
		for i := range 128 {
			b := bytes.Clone(same)
			b[i/8] ^= 1 << (i % 8)
			blockIsTheLibrarys(t, b, same)
			blockIsTheLibrarys(t, same, b)
			blockIsTheLibrarys(t, b, b)
		}
	}
}

// P6.1: blocks of any bytes.
func TestBlocksOfTheLibrary(t *testing.T) {
	rnd := rand.New(rand.NewSource(1))
	for range 3000 {
		blockIsTheLibrarys(t, someBytes(rnd, 16), someBytes(rnd, 16))
	}
}

// P6.1: a block is the same wherever the stream stands, and the stream doesn't
// go on by it.
func TestBlockLeavesTheStream(t *testing.T) {
	rnd := rand.New(rand.NewSource(2))
	key, count, text := someBytes(rnd, 16), someBytes(rnd, 16), someBytes(rnd, 200)
	asked, alone := stream(t, key, count), stream(t, key, count)
	want := alone.Block([16]byte(text))
	for n := range 20 {
		got, again := asked.Turn(text[:n]), alone.Turn(text[:n])
		if asked.Block([16]byte(text)) != want {
			t.Errorf("another block behind %d bytes more", n)
		}
		asked.Block([16]byte(someBytes(rnd, 16)))
		if !bytes.Equal(got, again) {
			t.Errorf("Turn of %d bytes behind Block: %x, want %x", n, got, again)
		}
	}
}

// P6.1: two streams' counters may differ: their blocks are the key's alone.
func TestBlockIsOfTheKeyAlone(t *testing.T) {
	rnd := rand.New(rand.NewSource(3))
	key, b := someBytes(rnd, 16), [16]byte(someBytes(rnd, 16))
	want := stream(t, key, make([]byte, 16)).Block(b)
	for range 20 {
		if got := stream(t, key, someBytes(rnd, 16)).Block(b); got != want {
			t.Errorf("another counter, another block: %x, want %x", got, want)
		}
	}
}
