package digest_test

import (
	"crypto/sha256"
	"crypto/sha512"
	"encoding/hex"
	"math/rand"
	"strings"
	"testing"

	"tabulary/digest"
)

// hashIs fails the test if got isn't want, in base 16.
func hashIs(t *testing.T, what string, got []byte, want string) {
	t.Helper()
	if h := hex.EncodeToString(got); h != want {
		t.Errorf("%s: %s, want %s", what, h, want)
	}
}

// sumsAre fails the test if one of b's hashes isn't that of the library.
func sumsAre(t *testing.T, what string, b []byte) {
	t.Helper()
	if digest.Sum256(b) != sha256.Sum256(b) {
		t.Errorf("Sum256 of %s, %d bytes", what, len(b))
	}
	if digest.Sum512(b) != sha512.Sum512(b) {
		t.Errorf("Sum512 of %s, %d bytes", what, len(b))
	}
}

// someBytes answers n bytes of any kind.
func someBytes(rnd *rand.Rand, n int) []byte {
	b := make([]byte, n)
	rnd.Read(b)
	return b
}

// P2.1: the hashes of texts that FIPS 180-4 and its examples publish.
func TestSumsThatArePublished(t *testing.T) {
	for _, c := range []struct{ text, small, great string }{
		{"",
			"e3b0c44298fc1c149afbf4c8996fb92427ae41e4649b934ca495991b7852b855",
			"cf83e1357eefb8bdf1542850d66d8007d620e4050b5715dc83f4a921d36ce9ce47d0d13c5d85f2b0ff8318d2877eec2f63b931bd47417a81a538327af927da3e"},
		{"abc", // the chapter's example
			"ba7816bf8f01cfea414140de5dae2223b00361a396177a9cb410ff61f20015ad",
			"ddaf35a193617abacc417349ae20413112e6fa4e89a97ea20a9eeee64b55d39a2192992a274fc1a836ba3c23a3feebbd454d4423643ce80e2a9ac94fa54ca49f"},
		{"abcdbcdecdefdefgefghfghighijhijkijkljklmklmnlmnomnopnopq",
			"248d6a61d20638b8e5c026930c3e6039a33ce45964ff2167f6ecedd419db06c1",
			"204a8fc6dda82f0a0ced7beb8e08a41657c16ef468b228a8279be331a703c33596fd15c13b1b07f9aa1d3bea57789ca031ad85c7a71dd70354ec631238ca3445"},
		{"abcdefghbcdefghicdefghijdefghijkefghijklfghijklmghijklmnhijklmnoijklmnopjklmnopqklmnopqrlmnopqrsmnopqrstnopqrstu",
			"cf5b16a778af8380036ce59e7b0492370b249b11e8f07a51afac45037afee9d1",
			"8e959b75dae313da8cf4f72814fc143f8f7779c6eb9f7fa17299aeadb6889018501d289e4900f7e4331b99dec4b5433ac7d329eeb6dd26545e96e55b874be909"},
		{strings.Repeat("a", 1000000),
			"cdc76e5c9914fb9281a1c7e284d73e67f1809a48a497200e046d39ccc7112cd0",
			"e718483d0ce769644e2e42c7bc15b4638e1f98b13b2044285632a803afa973ebde0ff244877ea60a4cb0432ce577c31beb009c5c2c49aa2e4eadb217ad8cc09b"},
	} {
		small, great := digest.Sum256([]byte(c.text)), digest.Sum512([]byte(c.text))
		hashIs(t, "Sum256", small[:], c.small)
		hashIs(t, "Sum512", great[:], c.great)
	}
	sumsAre(t, "nil", nil)
}

// P2.1: every length up to some blocks, so that the number of bits just finds
// room in a block, or just doesn't.
func TestSumsOfEveryLength(t *testing.T) {
	rnd := rand.New(rand.NewSource(1))
	for n := range 520 {
		sumsAre(t, "zeros", make([]byte, n))
		sumsAre(t, "any bytes", someBytes(rnd, n))
	}
}

// P2.1: the number of bits is written whole, where it takes 2, 3, 4 bytes.
func TestSumsOfLongTexts(t *testing.T) {
	b := make([]byte, 1<<21+200)
	for _, n := range []int{1 << 5, 1 << 13, 1 << 21} {
		for _, more := range []int{-1, 0, 1, 55, 56, 63, 64, 65, 111, 112, 127, 128, 129} {
			sumsAre(t, "zeros", b[:n+more])
		}
	}
}

// P2.1: each bit of a text counts, wherever it stands.
func TestSumsOfTextsABitApart(t *testing.T) {
	b := make([]byte, 200)
	small, great := digest.Sum256(b), digest.Sum512(b)
	for i := range 8 * len(b) {
		b[i/8] ^= 1 << (i % 8)
		if digest.Sum256(b) == small || digest.Sum512(b) == great {
			t.Errorf("bit %d doesn't count", i)
		}
		sumsAre(t, "one bit", b)
		b[i/8] = 0
	}
}
