package kex_test

import (
	"bytes"
	"crypto/ed25519"
	"crypto/sha256"
	"encoding/binary"
	"encoding/hex"
	"math/big"
	"math/rand"
	"strings"
	"testing"

	"tabulary/kex"
	"tabulary/packet"
)

// What the package should answer, reckoned apart from it, as the chapter's words
// have it, by Go's library.

// someBytes answers n bytes of any kind.
func someBytes(rnd *rand.Rand, n int) []byte {
	b := make([]byte, n)
	rnd.Read(b)
	return b
}

// someText answers a text of n bytes of any kind.
func someText(rnd *rand.Rand, n int) string {
	return string(someBytes(rnd, n))
}

// text answers the length of s and its bytes.
func text(s string) string {
	return string(binary.BigEndian.AppendUint32(nil, uint32(len(s)))) + s
}

// number answers an int of the bytes of a number.
func number(b []byte) string {
	n := new(big.Int).SetBytes(b)
	if n.Sign() == 0 {
		return text("")
	}
	return text(string(n.FillBytes(make([]byte, n.BitLen()/8+1))))
}

// offer answers an offer's payload of sixteen bytes, eight lists, and what
// stands behind these.
func offer(draw string, lists [8]string, behind string) []byte {
	s := "\x14" + draw
	for _, l := range lists {
		s += text(l)
	}
	return []byte(s + behind)
}

// ending is what stands behind the eight lists of an offer of one's own.
const ending = "\x00\x00\x00\x00" + "\x00\x00\x00\x00" + "\x00" + "\x00\x00\x00\x00"

// drawn answers the first sixteen bytes of a seed's draw 0.
func drawn(seed string) string {
	sum := sha256.Sum256([]byte(seed + "\x00\x00\x00\x00\x00\x00\x00\x00"))
	return string(sum[:16])
}

// told answers bytes as they are told.
func told(s string) string {
	return text("ssh-ed25519") + text(s)
}

// hashOf answers a talk's hash.
func hashOf(t kex.Talk) string {
	var b strings.Builder
	for _, s := range []string{t.Lines[0], t.Lines[1], string(t.Inits[0]), string(t.Inits[1]), t.Host, t.Shares[0], t.Shares[1]} {
		b.WriteString(text(s))
	}
	b.WriteString(number(t.Shared))
	sum := sha256.Sum256([]byte(b.String()))
	return string(sum[:])
}

// keyOf answers a letter's key.
func keyOf(t kex.Talk, letter string, session []byte, n int) []byte {
	sum := sha256.Sum256([]byte(number(t.Shared) + hashOf(t) + letter + string(session)))
	return sum[:n]
}

// keysOf answers a talk's keys.
func keysOf(t kex.Talk, session []byte) [2]packet.Keys {
	return [2]packet.Keys{
		{Iv: keyOf(t, "A", session, 16), Key: keyOf(t, "C", session, 16), Mac: keyOf(t, "E", session, 32)},
		{Iv: keyOf(t, "B", session, 16), Key: keyOf(t, "D", session, 16), Mac: keyOf(t, "F", session, 32)},
	}
}

// replyOf answers a reply's payload of three texts.
func replyOf(host, share, sig string) []byte {
	return []byte("\x1F" + text(host) + text(share) + text(sig))
}

// someTalk answers a talk of any bytes; its host's key is that of a seed.
func someTalk(rnd *rand.Rand, seed []byte) kex.Talk {
	pub := ed25519.NewKeyFromSeed(seed).Public().(ed25519.PublicKey)
	return kex.Talk{
		Lines:  [2]string{"SSH-2.0-" + someText(rnd, rnd.Intn(30)), "SSH-2.0-" + someText(rnd, rnd.Intn(30))},
		Inits:  [2][]byte{someBytes(rnd, rnd.Intn(300)), someBytes(rnd, rnd.Intn(300))},
		Host:   told(string(pub)),
		Shares: [2]string{someText(rnd, 32), someText(rnd, 32)},
		Shared: someBytes(rnd, 32),
	}
}

// unhex answers the bytes of a text in base 16.
func unhex(t *testing.T, s string) []byte {
	t.Helper()
	b, err := hex.DecodeString(s)
	if err != nil {
		t.Fatal(err)
	}
	return b
}

// isBytes fails the test if got isn't want.
func isBytes(t *testing.T, what string, got, want []byte) {
	t.Helper()
	if !bytes.Equal(got, want) {
		t.Errorf("%s: %x, want %x", what, got, want)
	}
}

// isKeys fails the test if got aren't want.
func isKeys(t *testing.T, what string, got, want [2]packet.Keys) {
	t.Helper()
	for i, who := range []string{"client", "server"} {
		isBytes(t, what+", Iv of the "+who, got[i].Iv, want[i].Iv)
		isBytes(t, what+", Key of the "+who, got[i].Key, want[i].Key)
		isBytes(t, what+", Mac of the "+who, got[i].Mac, want[i].Mac)
	}
}
