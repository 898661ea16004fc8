package ladder_test

import (
	"bytes"
	"crypto/ecdh"
	"math/big"
	"math/rand"
	"testing"

	"tabulary/api"
	"tabulary/ladder"
)

// P4.1, P4.2: RFC 7748, 6.1: two secrets, their public shares, what they share.
func TestTheExampleOfTwo(t *testing.T) {
	a := unhex(t, "77076d0a7318a57d3c16c17251b26645df4c2f87ebc0992ab177fba51db92c2a")
	b := unhex(t, "5dab087e624a8a4b79e17f8b83800ee66f3bb1292618b6fd1c2f8b27ff88e0eb")
	ofA := unhex(t, "8520f0098930a754748b7ddcb43ef75a0dbf3a0d26381af4eba4a98eaa9b4e6a")
	ofB := unhex(t, "de9edb7d7b7dc1b4d35b61c2ece435373f8343c85b78674dadfc7e146f882b4f")
	both := unhex(t, "4a5d9d5ba4ce2de1728e3bf480350f25e07e21c947d19e3376f09b3c1e161742")
	told := func(what string, want []byte) func([]byte, api.Errno) {
		return func(got []byte, e api.Errno) {
			t.Helper()
			if e != api.OK || !bytes.Equal(got, want) {
				t.Errorf("%s: %x, %d", what, got, e)
			}
		}
	}
	told("Public of a", ofA)(ladder.Public(a))
	told("Public of b", ofB)(ladder.Public(b))
	told("Shared of a", both)(ladder.Shared(a, ofB))
	told("Shared of b", both)(ladder.Shared(b, ofA))
}

// P4.1: Public is Mult of the point of 9.
func TestPublic(t *testing.T) {
	rnd := rand.New(rand.NewSource(5))
	for range 50 {
		k := someBytes(rnd)
		want, _ := ladder.Mult(k, number(9))
		if b, e := ladder.Public(k); e != api.OK || !bytes.Equal(b, want) {
			t.Errorf("Public(%x): %x, %d, want %x", k, b, e, want)
		}
	}
}

// P4.1: Public and Shared as Go's library has them.
func TestAgainstTheLibrary(t *testing.T) {
	rnd := rand.New(rand.NewSource(6))
	for range 200 {
		k, peer := someBytes(rnd), someBytes(rnd)
		secret, err := ecdh.X25519().NewPrivateKey(k)
		if err != nil {
			t.Fatal(err)
		}
		if b, e := ladder.Public(k); e != api.OK || !bytes.Equal(b, secret.PublicKey().Bytes()) {
			t.Errorf("Public(%x): %x, %d", k, b, e)
		}
		public, err := ecdh.X25519().NewPublicKey(peer)
		if err != nil {
			t.Fatal(err)
		}
		want, err := secret.ECDH(public)
		if err != nil {
			t.Fatal(err)
		}
		if b, e := ladder.Shared(k, peer); e != api.OK || !bytes.Equal(b, want) {
			t.Errorf("Shared(%x, %x): %x, %d, want %x", k, peer, b, e, want)
		}
	}
}

// P4.1: Shared is Mult's; ErrForm and nothing beside it, if that is 0.
func TestSharedOfNothing(t *testing.T) {
	rnd := rand.New(rand.NewSource(7))
	ends := ending(t)
	for i, u := range append(edgePoints(), ends...) {
		k := someBytes(rnd)
		want, _ := ladder.Mult(k, u)
		b, e := ladder.Shared(k, u)
		if bytes.Equal(want, make([]byte, 32)) {
			if e != api.ErrForm || b != nil {
				t.Errorf("Shared(%x, %x): %x, %d", k, u, b, e)
			}
		} else if e != api.OK || !bytes.Equal(b, want) {
			t.Errorf("Shared(%x, %x), number %d: %x, %d, want %x", k, u, i, b, e, want)
		}
	}
	for _, u := range ends {
		if b, e := ladder.Shared(number(9), u); e != api.ErrForm || b != nil {
			t.Errorf("Shared of %x: %x, %d", u, b, e)
		}
	}
}

// P4.1: what is shared is looked at as a whole: one byte that isn't 0 is enough.
func TestSharedOfOneByte(t *testing.T) {
	k := someBytes(rand.New(rand.NewSource(10)))
	for i := range 32 {
		want, peer := oneByteShared(k, i)
		if b, e := ladder.Shared(k, peer); e != api.OK || !bytes.Equal(b, want) {
			t.Errorf("Shared, byte %d alone: %x, %d, want %x", i, b, e, want)
		}
	}
}

// oneByteShared answers 32 bytes of which only byte i isn't 0, and a peer with
// whom k shares them.
func oneByteShared(k []byte, i int) (want, peer []byte) {
	for n := byte(1); ; n++ {
		want = make([]byte, 32)
		want[i] = n
		p := spotOf(coordinate(want))
		for _, l := range []*big.Int{order(), greaterOrder()} {
			if often(l, p) == nil {
				back := new(big.Int).ModInverse(secretNumber(k), l)
				return want, lowestFirst(often(back, p).u)
			}
		}
	}
}

// P4.2: two secrets share the same, whoever reckons it.
func TestBothShareTheSame(t *testing.T) {
	rnd := rand.New(rand.NewSource(8))
	secrets := [][]byte{
		make([]byte, 32), bytes.Repeat([]byte{0xFF}, 32), number(1), number(8), number(9),
	}
	for range 60 {
		secrets = append(secrets, someBytes(rnd))
	}
	for i, a := range secrets {
		b := secrets[(i+1)%len(secrets)]
		ofA, _ := ladder.Public(a)
		ofB, _ := ladder.Public(b)
		one, e := ladder.Shared(a, ofB)
		other, f := ladder.Shared(b, ofA)
		if e != api.OK || f != api.OK || !bytes.Equal(one, other) {
			t.Errorf("%x and %x: %x, %d and %x, %d", a, b, one, e, other, f)
		}
	}
}

// P4.2: so they do of whichever point they begin with.
func TestBothShareTheSameOfAnyPoint(t *testing.T) {
	rnd := rand.New(rand.NewSource(9))
	for _, u := range edgePoints() {
		a, b := someBytes(rnd), someBytes(rnd)
		ofA, _ := ladder.Mult(a, u)
		ofB, _ := ladder.Mult(b, u)
		one, e := ladder.Shared(a, ofB)
		other, f := ladder.Shared(b, ofA)
		if e != f || !bytes.Equal(one, other) {
			t.Errorf("%x and %x of %x: %x, %d and %x, %d", a, b, u, one, e, other, f)
		}
	}
}
