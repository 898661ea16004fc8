package cipher_test

import (
	"bytes"
	"crypto/aes"
	library "crypto/cipher"
	"math/big"
	"math/rand"
	"testing"
)

// byLibrary answers what the library turns a text into.
func byLibrary(t *testing.T, key, count, text []byte) []byte {
	t.Helper()
	a, err := aes.NewCipher(key)
	if err != nil {
		t.Fatal(err)
	}
	turned := make([]byte, len(text))
	library.NewCTR(a, count).XORKeyStream(turned, text)
	return turned
}

// byBlocks answers what the chapter's words turn a text into: a number counts
// modulo 2^128, and each block is the library's.
func byBlocks(t *testing.T, key, count, text []byte) []byte {
	t.Helper()
	a, err := aes.NewCipher(key)
	if err != nil {
		t.Fatal(err)
	}
	number := new(big.Int).SetBytes(count)
	var turned []byte
	for i, x := range text {
		block := make([]byte, 16)
		at := new(big.Int).Add(number, big.NewInt(int64(i/16)))
		at.Mod(at, new(big.Int).Lsh(big.NewInt(1), 128)).FillBytes(block)
		a.Encrypt(block, block)
		turned = append(turned, x^block[i%16])
	}
	return turned
}

// turnedIs fails the test if a new stream doesn't turn a text into want, whole
// and byte by byte.
func turnedIs(t *testing.T, key, count, text, want []byte) {
	t.Helper()
	if got := stream(t, key, count).Turn(text); !bytes.Equal(got, want) {
		t.Errorf("from %x on: %x, want %x", count, got, want)
	}
	s := stream(t, key, count)
	var got []byte
	for i := range text {
		got = append(got, s.Turn(text[i:i+1])...)
	}
	if !bytes.Equal(got, want) {
		t.Errorf("from %x on, byte by byte: %x, want %x", count, got, want)
	}
}

// P6.1, P6.2: SP 800-38A, F.5.1 and F.5.2, of which the chapter's example is
// the beginning.
func TestTurnOfTheExamples(t *testing.T) {
	key, count := unhex(t, "2b7e151628aed2a6abf7158809cf4f3c"), unhex(t, "f0f1f2f3f4f5f6f7f8f9fafbfcfdfeff")
	plain := unhex(t, "6bc1bee22e409f96e93d7e117393172aae2d8a571e03ac9c9eb76fac45af8e51"+
		"30c81c46a35ce411e5fbc1191a0a52eff69f2445df4f9b17ad2b417be66c3710")
	sealed := unhex(t, "874d6191b620e3261bef6864990db6ce9806f66b7970fdff8617187bb9fffdff"+
		"5ae4df3edbd5d35e5b4f09020db03eab1e031dda2fbe03d1792170a0f3009cee")
	turnedIs(t, key, count, plain, sealed)
	turnedIs(t, key, count, sealed, plain)
}

// P6.1: the counter's bytes carry, each one, and behind the last number comes 0.
func TestTurnCarries(t *testing.T) {
	rnd := rand.New(rand.NewSource(4))
	for n := range 17 {
		for _, last := range []byte{0xFD, 0xFE, 0xFF} {
			count := append(make([]byte, 16-n), bytes.Repeat([]byte{0xFF}, n)...)
			count[15] = last
			key, text := someBytes(rnd, 16), someBytes(rnd, 100)
			turnedIs(t, key, count, text, byBlocks(t, key, count, text))
		}
	}
}

// P6.1: any keys, counters and lengths; a text of no bytes is turned into none.
func TestTurnOfTheLibrary(t *testing.T) {
	rnd := rand.New(rand.NewSource(5))
	for n := range 150 {
		key, count, text := someBytes(rnd, 16), someBytes(rnd, 16), someBytes(rnd, n)
		turnedIs(t, key, count, text, byLibrary(t, key, count, text))
		turnedIs(t, key, count, text, byBlocks(t, key, count, text))
	}
	key, count, text := someBytes(rnd, 16), make([]byte, 16), someBytes(rnd, 16*300+5)
	turnedIs(t, key, count, text, byLibrary(t, key, count, text))
}

// P6.2: wherever a text is cut twice, it is turned alike.
func TestTurnCutAnywhere(t *testing.T) {
	rnd := rand.New(rand.NewSource(6))
	key, count, text := someBytes(rnd, 16), bytes.Repeat([]byte{0xFF}, 16), someBytes(rnd, 52)
	want := byBlocks(t, key, count, text)
	for j := range len(text) + 1 {
		for i := range j + 1 {
			s := stream(t, key, count)
			got := bytes.Join([][]byte{s.Turn(text[:i]), s.Turn(text[i:j]), s.Turn(text[j:])}, nil)
			if !bytes.Equal(got, want) {
				t.Errorf("cut at %d and %d: %x, want %x", i, j, got, want)
			}
		}
	}
}

// cutTurned answers a text, turned by a new stream part by part, some of the
// parts empty or nil.
func cutTurned(t *testing.T, rnd *rand.Rand, key, count, text []byte) []byte {
	t.Helper()
	s := stream(t, key, count)
	var turned []byte
	for len(text) > 0 {
		n := min(len(text), []int{0, 1, 15, 16, 17, 32, rnd.Intn(60)}[rnd.Intn(7)])
		part := s.Turn(text[:n])
		if len(part) != n || len(s.Turn(nil)) != 0 {
			t.Fatalf("%d bytes for %d", len(part), n)
		}
		turned, text = append(turned, part...), text[n:]
	}
	return turned
}

// P6.2: however bytes are cut, they are turned alike; turned again, however
// they are cut then, they are as they were.
func TestTurnThereAndBack(t *testing.T) {
	rnd := rand.New(rand.NewSource(7))
	for range 300 {
		key, count, text := someBytes(rnd, 16), someBytes(rnd, 16), someBytes(rnd, rnd.Intn(400))
		sealed := cutTurned(t, rnd, key, count, text)
		if !bytes.Equal(sealed, byLibrary(t, key, count, text)) {
			t.Errorf("%d bytes, cut, are turned otherwise", len(text))
		}
		if back := cutTurned(t, rnd, key, count, sealed); !bytes.Equal(back, text) {
			t.Errorf("%d bytes turned again: %x, want %x", len(text), back, text)
		}
	}
}

// P6.1: what is turned doesn't count: zeros show the stream's own bytes.
func TestTurnIsXor(t *testing.T) {
	rnd := rand.New(rand.NewSource(8))
	key, count, text := someBytes(rnd, 16), someBytes(rnd, 16), someBytes(rnd, 90)
	turned, own := stream(t, key, count).Turn(text), stream(t, key, count).Turn(make([]byte, 90))
	for i := range text {
		if turned[i] != text[i]^own[i] {
			t.Errorf("byte %d: %02x of %02x and %02x", i, turned[i], text[i], own[i])
		}
	}
}
