package kex_test

import (
	"math/rand"
	"strings"
	"testing"

	"tabulary/kex"
)

// P8.1: a blob and a signature of any bytes, and back, if there are as many as
// there should be.
func TestTold(t *testing.T) {
	rnd := rand.New(rand.NewSource(4))
	for _, n := range []int{0, 1, 11, 31, 32, 33, 63, 64, 65, 300, 20000} {
		s := someText(rnd, n)
		blob, sig := kex.Blob(s), kex.Signature([]byte(s))
		if blob != told(s) || sig != told(s) {
			t.Errorf("of %d bytes: %q and %q", n, blob, sig)
		}
		wantKey, wantSig := "", ""
		if n == 32 {
			wantKey = s
		}
		if n == 64 {
			wantSig = s
		}
		if got := kex.ReadBlob(blob); got != wantKey {
			t.Errorf("a key of %d bytes is read as %q", n, got)
		}
		if got := kex.ReadSignature(sig); string(got) != wantSig {
			t.Errorf("a signature of %d bytes is read as %q", n, got)
		}
	}
	if kex.Signature(nil) != told("") {
		t.Error("a signature of no bytes")
	}
}

// P8.1: what isn't just the two texts is no blob, and no signature.
func TestReadToldOfOthers(t *testing.T) {
	key, sig := strings.Repeat("k", 32), strings.Repeat("s", 64)
	for _, s := range []string{key, sig} {
		whole := told(s)
		for n := range len(whole) {
			notTold(t, whole[:n])
		}
		for _, other := range []string{
			s,
			text(s),
			text(s) + text("ssh-ed25519"),
			text("") + text(s),
			text("ssh-ed2551") + text(s),
			text("ssh-ed255190") + text(s),
			text("ssh-rsa") + text(s),
			text("SSH-ED25519") + text(s),
			text("ssh-ed25519\x00") + text(s),
			"ssh-ed25519" + text(s),
			text("ssh-ed25519") + s,
			text("ssh-ed25519") + text(s[1:]),
			text("ssh-ed25519") + text(s+"x"),
			text(whole),
			whole + "\x00",
			whole + text(""),
			whole + whole,
			"\x00" + whole,
			"\xff\xff\xff\xff" + whole,
		} {
			notTold(t, other)
		}
	}
	notTold(t, told(""))
}

// notTold fails the test if s is read as a key or a signature.
func notTold(t *testing.T, s string) {
	t.Helper()
	if got := kex.ReadBlob(s); got != "" {
		t.Errorf("ReadBlob(%q): %q", s, got)
	}
	if got := kex.ReadSignature(s); len(got) != 0 {
		t.Errorf("ReadSignature(%q): %q", s, got)
	}
}

// P8.1: each byte of the two lengths and of the name counts.
func TestReadToldOfEachByte(t *testing.T) {
	for _, s := range []string{strings.Repeat("k", 32), strings.Repeat("s", 64)} {
		whole := told(s)
		for i := range len(whole) - len(s) {
			for bit := range 8 {
				b := []byte(whole)
				b[i] ^= 1 << bit
				notTold(t, string(b))
			}
		}
	}
}

// P8.1: a signature isn't changed by being told, and one that is read is new
// memory.
func TestSignatureShares(t *testing.T) {
	room := []byte(strings.Repeat("s", 64) + "behind")
	s := kex.Signature(room[:64])
	if string(room) != strings.Repeat("s", 64)+"behind" {
		t.Errorf("what was handed in is now %q", room)
	}
	got := kex.ReadSignature(s)
	clear(got)
	if string(kex.ReadSignature(s)) != strings.Repeat("s", 64) {
		t.Error("a signature is kept")
	}
}
