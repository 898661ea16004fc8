package twist_test

import (
	"bytes"
	"crypto/ed25519"
	"math/rand"
	"testing"

	"tabulary/api"
	"tabulary/twist"
)

// P5.1, P5.2: the chapter's example among those of RFC 8032, 7.1.
func TestTheExamples(t *testing.T) {
	for _, c := range []struct{ seed, pub, msg, sig string }{
		{
			"9d61b19deffd5a60ba844af492ec2cc44449c5697b326919703bac031cae7f60",
			"d75a980182b10ab7d54bfed3c964073a0ee172f3daa62325af021a68f707511a",
			"",
			"e5564300c360ac729086e2cc806e828a84877f1eb8e5d974d873e065224901555fb8821590a33bacc61e39701cf9b46bd25bf5f0595bbe24655141438e7a100b",
		},
		{
			"4ccd089b28ff96da9db6c346ec114e0f5b8a319f35aba624da8cf6ed4fb8a6fb",
			"3d4017c3e843895a92b70aa74d1b7ebc9c982ccf2ec4968cc0cd55f12af4660c",
			"72",
			"92a009a9f0d4cab8720e820b5f642540a2b27b5416503f8fb3762223ebdb69da085ac1e43e15996e458f3613d0f11d8c387b2eaeb4302aeeb00d291612bb0c00",
		},
		{
			"c5aa8df43f9f837bedb7442f31dcb7b166d38535076f094b85ce3a2e0b4458f7",
			"fc51cd8e6218a1a38da47ed00230f0580816ed13ba3303ac5deb911548908025",
			"af82",
			"6291d657deec24024827e69c3abe01a30ce548a284743a445e3680d7db5ac3ac18ff9b538d16f290ae67f760984dc6594a7c15e9716ed28dc027beceea1ec40a",
		},
	} {
		seed, msg := unhex(t, c.seed), unhex(t, c.msg)
		pub, e := twist.Public(seed)
		if e != api.OK || !bytes.Equal(pub, unhex(t, c.pub)) {
			t.Errorf("Public(%s): %x, %d", c.seed, pub, e)
		}
		sig, e := twist.Sign(seed, msg)
		if e != api.OK || !bytes.Equal(sig, unhex(t, c.sig)) {
			t.Errorf("Sign(%s, %s): %x, %d", c.seed, c.msg, sig, e)
		}
		if !twist.Verify(unhex(t, c.pub), msg, unhex(t, c.sig)) {
			t.Errorf("Verify of %s", c.sig)
		}
	}
}

// P5.1: Public is the base, the seed's number times by itself, by the sum of
// two points.
func TestPublicBySums(t *testing.T) {
	for _, seed := range edgeSeeds(rand.New(rand.NewSource(1)), 10) {
		b, e := twist.Public(seed)
		if want := bytesOf(ofBase(seedNumber(seed))); e != api.OK || !bytes.Equal(b, want) {
			t.Errorf("Public(%x): %x, %d, want %x", seed, b, e, want)
		}
	}
}

// P5.1: Sign by the chapter's words, reckoned apart.
func TestSignBySums(t *testing.T) {
	rnd := rand.New(rand.NewSource(2))
	for i, seed := range edgeSeeds(rnd, 10) {
		msg := someBytes(rnd, 13*i)
		sig, e := twist.Sign(seed, msg)
		if want := signatureBy(seed, msg); e != api.OK || !bytes.Equal(sig, want) {
			t.Errorf("Sign(%x, %x): %x, %d, want %x", seed, msg, sig, e, want)
		}
	}
}

// P5.1, P5.2: Public, Sign and Verify as Go's library has them; messages of all
// lengths about the blocks of the great hash, and of some thousand bytes.
func TestAgainstTheLibrary(t *testing.T) {
	rnd := rand.New(rand.NewSource(3))
	seeds := edgeSeeds(rnd, 300)
	for i, seed := range seeds {
		msg := someBytes(rnd, i)
		if i%50 == 49 {
			msg = someBytes(rnd, 100*i)
		}
		secret := ed25519.NewKeyFromSeed(seed)
		pub, e := twist.Public(seed)
		if e != api.OK || !bytes.Equal(pub, secret.Public().(ed25519.PublicKey)) {
			t.Errorf("Public(%x): %x, %d", seed, pub, e)
		}
		want := ed25519.Sign(secret, msg)
		sig, e := twist.Sign(seed, msg)
		if e != api.OK || !bytes.Equal(sig, want) {
			t.Errorf("Sign(%x, %x): %x, %d, want %x", seed, msg, sig, e, want)
		}
		if !twist.Verify(pub, msg, want) {
			t.Errorf("Verify(%x, %x, %x)", pub, msg, want)
		}
	}
}

// P5.1: no message is the one of no bytes.
func TestNoMessage(t *testing.T) {
	seed := make([]byte, 32)
	pub, _ := twist.Public(seed)
	sig, e := twist.Sign(seed, nil)
	same, f := twist.Sign(seed, []byte{})
	if e != api.OK || f != api.OK || !bytes.Equal(sig, same) || !bytes.Equal(sig, signatureBy(seed, nil)) {
		t.Errorf("%x, %d and %x, %d", sig, e, same, f)
	}
	if !twist.Verify(pub, nil, sig) || !twist.Verify(pub, []byte{}, sig) || twist.Verify(pub, []byte{0}, sig) {
		t.Error("Verify of no message")
	}
}

// P5.1: each bit of a seed counts.
func TestEachBitOfASeedCounts(t *testing.T) {
	seed := someBytes(rand.New(rand.NewSource(4)), 32)
	seen := map[[32]byte]bool{}
	for i := range 256 {
		seed[i/8] ^= 1 << (i % 8)
		pub, e := twist.Public(seed)
		if e != api.OK || seen[[32]byte(pub)] {
			t.Errorf("bit %d: %x, %d", i, pub, e)
		}
		seen[[32]byte(pub)] = true
		seed[i/8] ^= 1 << (i % 8)
	}
}

// P5.1: ErrLen, if a seed hasn't 32 bytes; nothing beside it.
func TestSeedsOfOtherLengths(t *testing.T) {
	for n := range 100 {
		seed := bytes.Repeat([]byte{7}, n)
		want := api.ErrLen
		if n == 32 {
			want = api.OK
		}
		pub, e := twist.Public(seed)
		if e != want || (e == api.OK) != (len(pub) == 32) || e != api.OK && pub != nil {
			t.Errorf("Public of %d bytes: %x, %d", n, pub, e)
		}
		sig, e := twist.Sign(seed, []byte("a message"))
		if e != want || (e == api.OK) != (len(sig) == 64) || e != api.OK && sig != nil {
			t.Errorf("Sign by %d bytes: %x, %d", n, sig, e)
		}
	}
	if pub, e := twist.Public(nil); pub != nil || e != api.ErrLen {
		t.Errorf("Public of nil: %x, %d", pub, e)
	}
	if sig, e := twist.Sign(nil, nil); sig != nil || e != api.ErrLen {
		t.Errorf("Sign by nil: %x, %d", sig, e)
	}
}

// The fourth rule: what is handed in isn't changed, nor what lies behind it,
// and isn't kept; an answer is new memory. The eighth: it is the same again.
func TestNothingIsChangedOrKept(t *testing.T) {
	whole := bytes.Repeat([]byte{0xA5}, 512)
	was := bytes.Clone(whole)
	seed, msg := whole[16:48], whole[64:96]
	for name, call := range map[string]func() ([]byte, api.Errno){
		"Public": func() ([]byte, api.Errno) { return twist.Public(seed) },
		"Sign":   func() ([]byte, api.Errno) { return twist.Sign(seed, msg) },
	} {
		first, _ := call()
		told := bytes.Clone(first)
		clear(first[:cap(first)])
		again, e := call()
		if e != api.OK || !bytes.Equal(again, told) || !bytes.Equal(whole, was) {
			t.Errorf("%s: %x, then %x", name, told, again)
		}
	}
	pub, _ := twist.Public(seed)
	sig, _ := twist.Sign(seed, msg)
	copy(whole[128:], pub)
	copy(whole[192:], sig)
	was = bytes.Clone(whole)
	for range 2 {
		if !twist.Verify(whole[128:160], msg, whole[192:256]) || !bytes.Equal(whole, was) {
			t.Error("Verify")
		}
	}
}
