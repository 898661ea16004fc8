package digest_test

import (
	"bytes"
	"crypto/hmac"
	"crypto/sha256"
	"math/rand"
	"slices"
	"strings"
	"testing"

	"tabulary/digest"
)

// code answers the library's code of a text under a key.
func code(key, text []byte) []byte {
	h := hmac.New(sha256.New, key)
	h.Write(text)
	return h.Sum(nil)
}

// macIs fails the test if the code of the parts isn't that of their text.
func macIs(t *testing.T, what string, key []byte, parts ...[]byte) {
	t.Helper()
	if got := digest.Mac(key, parts...); !bytes.Equal(got[:], code(key, bytes.Join(parts, nil))) {
		t.Errorf("Mac, %s: a key of %d bytes, %d parts", what, len(key), len(parts))
	}
}

// cut answers a text in parts, some of them empty or nil.
func cut(rnd *rand.Rand, text []byte) [][]byte {
	var parts [][]byte
	for len(text) > 0 {
		n := min(len(text), []int{0, 1, 2, 63, 64, 65, rnd.Intn(200)}[rnd.Intn(7)])
		parts, text = append(parts, text[:n]), text[n:]
	}
	return append(parts, nil)
}

// P2.1: the codes that RFC 4231 publishes, each text whole and in two parts.
func TestMacsThatArePublished(t *testing.T) {
	for _, c := range []struct{ key, text, want string }{
		{strings.Repeat("\x0b", 20), "Hi There",
			"b0344c61d8db38535ca8afceaf0bf12b881dc200c9833da726e9376c2e32cff7"},
		{"Jefe", "what do ya want for nothing?",
			"5bdcc146bf60754e6a042426089575c75a003f089d2739839dec58b964ec3843"},
		{strings.Repeat("\xaa", 20), strings.Repeat("\xdd", 50),
			"773ea91e36800e46854db8ebd09181a72959098b3ef8c122d9635514ced565fe"},
		{strings.Repeat("\xaa", 131), "Test Using Larger Than Block-Size Key - Hash Key First",
			"60e431591ee0b67f0d8a26aacbf5b77f8e0bc6213728c5140546040f0ee37f54"},
		{strings.Repeat("\xaa", 131), "This is a test using a larger than block-size key and a larger than block-size data. The key needs to be hashed before being used by the HMAC algorithm.",
			"9b09ffa71b942fcb27635fbcd5b0e944bfdc63644f0713938a7f51535c3a35e2"},
	} {
		whole := digest.Mac([]byte(c.key), []byte(c.text))
		hashIs(t, "Mac", whole[:], c.want)
		half := len(c.text) / 2
		parts := digest.Mac([]byte(c.key), []byte(c.text[:half]), []byte(c.text[half:]))
		hashIs(t, "Mac in parts", parts[:], c.want)
	}
}

// P2.1: a key of 64 bytes is taken as it is, a longer one is its hash.
func TestMacUnderEveryLengthOfKey(t *testing.T) {
	rnd := rand.New(rand.NewSource(2))
	for n := range 200 {
		macIs(t, "a text", someBytes(rnd, n), []byte("some text"))
		macIs(t, "none", someBytes(rnd, n))
	}
	long := someBytes(rnd, 65)
	sum := digest.Sum256(long)
	if digest.Mac(long, []byte("x")) != digest.Mac(sum[:], []byte("x")) {
		t.Error("a key of 65 bytes isn't its hash")
	}
	sum = digest.Sum256(long[:64])
	if digest.Mac(long[:64], []byte("x")) == digest.Mac(sum[:], []byte("x")) {
		t.Error("a key of 64 bytes is its hash")
	}
	if digest.Mac(nil, []byte("x")) != digest.Mac(make([]byte, 64), []byte("x")) {
		t.Error("no key isn't zeros")
	}
	if digest.Mac(make([]byte, 65)) == digest.Mac(nil) {
		t.Error("65 zeros are taken as they are")
	}
}

// P2.1: where a text is cut doesn't count, its order does.
func TestMacOfAnyParts(t *testing.T) {
	rnd := rand.New(rand.NewSource(3))
	for n := range 300 {
		key, text := someBytes(rnd, rnd.Intn(100)), someBytes(rnd, n)
		macIs(t, "whole", key, text)
		macIs(t, "cut", key, cut(rnd, text)...)
		macIs(t, "byte by byte", key, slices.Collect(slices.Chunk(text, 1))...)
	}
	a, b := []byte("a"), []byte("b")
	if digest.Mac(nil, a, b) == digest.Mac(nil, b, a) {
		t.Error("the order of parts doesn't count")
	}
	want := digest.Mac(a)
	for _, parts := range [][][]byte{{}, {nil}, {{}}, {nil, {}, nil}} {
		if digest.Mac(a, parts...) != want {
			t.Errorf("Mac of %d empty parts", len(parts))
		}
	}
}

// P2.1: many parts that are one and the same bytes count each time.
func TestMacOfAPartManyTimes(t *testing.T) {
	parts := slices.Repeat([][]byte{bytes.Repeat([]byte("0123456"), 1<<10)}, 300)
	macIs(t, "one part", []byte("key"), parts...)
}
