package digest_test

import (
	"crypto/sha256"
	"encoding/binary"
	"math"
	"math/rand"
	"slices"
	"strings"
	"testing"

	"tabulary/digest"
)

// P2.1: Same asks for the same bytes, as many of them.
func TestSame(t *testing.T) {
	for _, c := range []struct {
		a, b string
		want bool
	}{
		{"", "", true},
		{"", "\x00", false},
		{"\x00", "\x00", true},
		{"\x00", "\x00\x00", false},
		{"abc", "abc", true},
		{"abc", "ab", false},
		{"abc", "abd", false},
		{"abc", "bbc", false},
		{"abc", "cba", false},
		{"\x01\x01", "\x02\x02", false}, // two differences don't undo each other
		{"\x80", "\x00", false},
		{strings.Repeat("x", 300), strings.Repeat("x", 300), true},
	} {
		if digest.Same([]byte(c.a), []byte(c.b)) != c.want || digest.Same([]byte(c.b), []byte(c.a)) != c.want {
			t.Errorf("Same of %q and %q isn't %v", c.a, c.b, c.want)
		}
	}
	if !digest.Same(nil, nil) || !digest.Same(nil, []byte{}) || digest.Same(nil, []byte{0}) {
		t.Error("nil isn't no bytes")
	}
}

// P2.1: one bit that differs is enough, wherever it stands.
func TestSameLooksAtEachBit(t *testing.T) {
	a := someBytes(rand.New(rand.NewSource(4)), 70)
	for i := range 8 * len(a) {
		b := slices.Clone(a)
		b[i/8] ^= 1 << (i % 8)
		if digest.Same(a, b) || digest.Same(b, a) {
			t.Errorf("bit %d isn't looked at", i)
		}
	}
	if !digest.Same(a, a) || !digest.Same(a, slices.Clone(a)) {
		t.Error("the same bytes aren't")
	}
}

// P2.1: Draw is the small hash of a seed and of eight bytes, the highest first.
func TestDraw(t *testing.T) {
	for _, c := range []struct {
		seed string
		n    uint64
		want string
	}{
		{"", 0, "af5570f5a1810b7af78caf4bc70a660f0df51e42baf91d4de5b2328de0e83dfc"},
		{"seed", 1, "72e4f9aecea933bf841f286eb62fca5c4438be2f21c900141f792cb9c4cfd592"},
		{"seed", 0x0102030405060708, "1e5b3454ac9be496cb87c24439202b7a07b8a776736c863dddb12a6228054b27"},
		{"\xff\x00,", math.MaxUint64, "7724705bebefe004026121b4d59d54567f1caa61e1d552e218eb3d2ad20328b3"},
		{"s", 256, "5d9cbc3a5c732da87af6d9d13f649b72e3351d1c131d73d54a210dbea845f7f5"},
		{strings.Repeat("x", 200), 5, "7c102963fe8eab0127100677dad2ec6b53bfe82d95d016a6b428d6467b459677"},
	} {
		got := digest.Draw(c.seed, c.n)
		hashIs(t, "Draw", got[:], c.want)
	}
}

// P2.1: every bit of a draw's number counts, with seeds of any length.
func TestDrawOfEveryBit(t *testing.T) {
	for bit := range 64 {
		n := uint64(1) << bit
		for _, seed := range []string{"", "a", strings.Repeat("b", 55+bit)} {
			want := sha256.Sum256(binary.BigEndian.AppendUint64([]byte(seed), n))
			if digest.Draw(seed, n) != want {
				t.Errorf("Draw of %q, %d", seed, n)
			}
		}
	}
}

// The fourth and the eighth rule: what is handed in stays as it was, the room
// behind it too, and the same is answered again.
func TestNothingIsChangedOrKept(t *testing.T) {
	whole := []byte(strings.Repeat("#", 400))
	text, key := whole[:70], whole[200:240]
	list := [][]byte{text, key, []byte("behind")}
	small, great := digest.Sum256(text), digest.Sum512(text)
	mac := digest.Mac(key, list[:2]...)
	digest.Mac(whole[:100], list[:0]...)
	digest.Same(text, key)
	if string(whole) != strings.Repeat("#", 400) {
		t.Error("bytes were changed")
	}
	if &list[0][0] != &text[0] || len(list[0]) != 70 || len(list[1]) != 40 || string(list[2]) != "behind" {
		t.Error("the list of parts was changed")
	}
	if digest.Sum256(text) != small || digest.Sum512(text) != great || digest.Mac(key, list[:2]...) != mac {
		t.Error("another answer to the same call")
	}
	text[0] = '!'
	if digest.Sum256(text) == small || digest.Sum512(text) == great || digest.Mac(key, list[:2]...) == mac {
		t.Error("the same answer to another text")
	}
}
