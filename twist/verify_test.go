package twist_test

import (
	"bytes"
	"math/big"
	"math/rand"
	"slices"
	"testing"

	"tabulary/api"
	"tabulary/twist"
)

// isTold fails the test if Verify doesn't answer want.
func isTold(t *testing.T, what string, pub, msg, sig []byte, want bool) {
	t.Helper()
	if twist.Verify(pub, msg, sig) != want {
		t.Errorf("%s: Verify(%x, %x, %x) isn't %v", what, pub, msg, sig, want)
	}
}

// signed answers a key, a message and its signature.
func signed(t *testing.T, rnd *rand.Rand) (pub, msg, sig []byte) {
	t.Helper()
	seed, msg := someBytes(rnd, 32), someBytes(rnd, 20)
	pub, e := twist.Public(seed)
	sig, f := twist.Sign(seed, msg)
	if e != api.OK || f != api.OK {
		t.Fatal(e, f)
	}
	return pub, msg, sig
}

// P5.2: what is signed is taken by that seed's key and that message, and by no
// other ones.
func TestWhatIsSignedIsTaken(t *testing.T) {
	rnd := rand.New(rand.NewSource(11))
	var pubs, msgs, sigs [][]byte
	for range 12 {
		pub, msg, sig := signed(t, rnd)
		pubs, msgs, sigs = append(pubs, pub), append(msgs, msg), append(sigs, sig)
	}
	for i := range pubs {
		for j := range pubs {
			isTold(t, "key", pubs[j], msgs[i], sigs[i], i == j)
			isTold(t, "message", pubs[i], msgs[j], sigs[i], i == j)
			isTold(t, "signature", pubs[i], msgs[i], sigs[j], i == j)
		}
	}
}

// P5.1: each bit of the key, of the message and of the signature counts.
func TestEachBitCounts(t *testing.T) {
	pub, msg, sig := signed(t, rand.New(rand.NewSource(12)))
	for _, b := range [][]byte{pub, msg, sig} {
		for i := range 8 * len(b) {
			b[i/8] ^= 1 << (i % 8)
			isTold(t, "a bit", pub, msg, sig, false)
			b[i/8] ^= 1 << (i % 8)
		}
	}
	isTold(t, "all as it was", pub, msg, sig, true)
	isTold(t, "less of the message", pub, msg[1:], sig, false)
	isTold(t, "more of the message", pub, append(msg, 0), sig, false)
}

// P5.1: a signature has 64 bytes, and a key 32.
func TestOtherLengths(t *testing.T) {
	pub, msg, sig := signed(t, rand.New(rand.NewSource(13)))
	longPub, longSig := append(pub, make([]byte, 40)...), append(sig, make([]byte, 40)...)
	for n := range longSig {
		isTold(t, "signature", pub, msg, longSig[:n], n == 64)
	}
	for n := range longPub {
		isTold(t, "key", longPub[:n], msg, sig, n == 32)
	}
	isTold(t, "the end of the key", pub[1:], msg, sig, false)
	isTold(t, "the end of the signature", pub, msg, sig[1:], false)
	isTold(t, "no signature", pub, msg, nil, false)
	isTold(t, "no key", nil, msg, sig, false)
	isTold(t, "nothing", nil, nil, nil, false)
}

// P5.1: S is below L, though S and a multiple of L would do as well.
func TestSIsBelowL(t *testing.T) {
	rnd := rand.New(rand.NewSource(14))
	for range 3 {
		pub, msg, sig := signed(t, rnd)
		s := asNumber(sig[32:])
		isTold(t, "S", pub, msg, sig, true)
		for n := 1; ; n++ {
			if s.Add(s, order()); s.BitLen() > 256 {
				break
			}
			isTold(t, "S and a multiple", pub, msg, slices.Concat(sig[:32], lowestFirst(s)), false)
		}
	}
}

// P5.1: at the edges of S. Under the key of nothing, any S goes with its own R,
// whatever the message.
func TestTheEdgesOfS(t *testing.T) {
	pub, msg := bytesOf(zeroSpot()), []byte("any")
	for n := int64(-3); n < 4; n++ {
		for _, from := range []*big.Int{new(big.Int), order(), new(big.Int).Lsh(order(), 1), new(big.Int).Lsh(big.NewInt(1), 255)} {
			s := new(big.Int).Add(from, big.NewInt(n))
			if s.Sign() < 0 {
				continue
			}
			sig := slices.Concat(bytesOf(ofBase(s)), lowestFirst(s))
			isTold(t, "an edge", pub, msg, sig, s.Cmp(order()) < 0)
		}
	}
	most := slices.Concat(bytesOf(ofBase(asNumber(bytes.Repeat([]byte{0xFF}, 32)))), bytes.Repeat([]byte{0xFF}, 32))
	isTold(t, "the greatest", pub, msg, most, false)
}

// P5.1: R is held by its bytes: other bytes that could be read as the same
// point aren't it.
func TestRIsItsBytes(t *testing.T) {
	pub, msg, none := bytesOf(zeroSpot()), []byte("any"), make([]byte, 32)
	one := lowestFirst(big.NewInt(1))
	isTold(t, "R as it is", pub, msg, slices.Concat(one, none), true)
	isTold(t, "R with bit 255", pub, msg, slices.Concat(withTop(one), none), false)
	isTold(t, "R with p in it", pub, msg, slices.Concat(nearPrime(1), none), false)
	isTold(t, "R with both", pub, msg, slices.Concat(withTop(nearPrime(1)), none), false)
}

// hiding answers a message and a signature under a key of a point of which n
// times is nothing: the point then doesn't count, as k is a multiple of n.
func hiding(rnd *rand.Rand, pub []byte, n int64) (msg, sig []byte) {
	s := modL(asNumber(someBytes(rnd, 40)))
	first := bytesOf(ofBase(s))
	for {
		msg = someBytes(rnd, 10)
		k := modL(hashOf(first, pub, msg))
		if k.Mod(k, big.NewInt(n)).Sign() == 0 {
			return msg, slices.Concat(first, lowestFirst(s))
		}
	}
}

// P5.1: a key's number is below p, and bit 255 isn't set where x is 0: else it
// isn't a point's, though all the rest hold.
func TestKeysThatAreNoPoints(t *testing.T) {
	rnd := rand.New(rand.NewSource(15))
	for _, c := range []struct {
		what string
		pub  []byte
		want bool
	}{
		{"1", lowestFirst(big.NewInt(1)), true},
		{"1 with bit 255", withTop(lowestFirst(big.NewInt(1))), false},
		{"p + 1", nearPrime(1), false},
		{"p + 1 with bit 255", withTop(nearPrime(1)), false},
		{"p - 1", nearPrime(-1), true},
		{"p - 1 with bit 255", withTop(nearPrime(-1)), false},
		{"0", make([]byte, 32), true},
		{"0 with bit 255", withTop(make([]byte, 32)), true},
		{"p", nearPrime(0), false},
		{"p with bit 255", withTop(nearPrime(0)), false},
	} {
		for range 3 {
			msg, sig := hiding(rnd, c.pub, 4)
			isTold(t, c.what, c.pub, msg, sig, c.want)
		}
	}
}

// P5.1: some point has a key's number as its y. Those here have none, and to
// some power they are 1: who took 0 for their x would take the signatures.
func TestKeysOfNoPoint(t *testing.T) {
	rnd := rand.New(rand.NewSource(16))
	twelfth := new(big.Int).Div(new(big.Int).Sub(prime(), big.NewInt(1)), big.NewInt(12))
	seen := 0
	for n := int64(2); n < 60; n++ {
		y := new(big.Int).Exp(big.NewInt(n), twelfth, prime())
		if _, ok := spotWith(y, 0); ok {
			continue
		}
		seen++
		msg, sig := hiding(rnd, lowestFirst(y), 12)
		isTold(t, "no point", lowestFirst(y), msg, sig, false)
	}
	if seen == 0 {
		t.Error("all of them are points")
	}
	for range 30 {
		pub, msg, sig := someBytes(rnd, 32), someBytes(rnd, 32), someBytes(rnd, 64)
		isTold(t, "anything", pub, msg, sig, false)
	}
}

// P5.1: k is taken modulo L, and points of which 8 times is nothing count: of
// keys, and of R.
func TestPointsThatEnd(t *testing.T) {
	rnd := rand.New(rand.NewSource(17))
	seen := map[bool]int{}
	for n := range int64(8) {
		end := often(big.NewInt(n), ofEight())
		s := seedNumber(someBytes(rnd, 32))
		pub := bytesOf(plus(ofBase(s), end))
		for i := range int64(12) {
			msg, r := someBytes(rnd, 10), modL(asNumber(someBytes(rnd, 40)))
			first := bytesOf(plus(ofBase(r), often(big.NewInt(i), ofEight())))
			k := modL(hashOf(first, pub, msg))
			last := lowestFirst(modL(k.Mul(k, s).Add(k, r)))
			sig := slices.Concat(first, last)
			want := verifiedBy(pub, msg, sig)
			isTold(t, "a point that ends", pub, msg, sig, want)
			seen[want]++
		}
	}
	if seen[true] < 5 || seen[false] < 5 {
		t.Errorf("too few of one kind: %v", seen)
	}
}

// P5.1: the same of what the key alone ends, where R is right just if k modulo
// L is taken: as many messages as show the other way to be wrong.
func TestKIsModuloL(t *testing.T) {
	rnd := rand.New(rand.NewSource(18))
	eight, end := big.NewInt(8), ofEight()
	pub := bytesOf(end)
	seen := map[bool]int{}
	for range 60 {
		msg, s, i := someBytes(rnd, 10), modL(asNumber(someBytes(rnd, 40))), big.NewInt(rnd.Int63n(8))
		sig := slices.Concat(bytesOf(plus(ofBase(s), opposite(often(i, end)))), lowestFirst(s))
		whole := hashOf(sig[:32], pub, msg)
		want := new(big.Int).Mod(modL(whole), eight).Cmp(i) == 0
		isTold(t, "k", pub, msg, sig, want)
		if want != (new(big.Int).Mod(whole, eight).Cmp(i) == 0) {
			seen[want]++
		}
	}
	if seen[true] == 0 || seen[false] == 0 {
		t.Errorf("nothing to tell the two ways apart: %v", seen)
	}
}
