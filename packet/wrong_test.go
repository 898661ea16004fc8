package packet_test

import (
	"bytes"
	"math/rand"
	"testing"

	"tabulary/api"
	"tabulary/packet"
)

// over fails the test if the reader isn't over for good: nothing is left, and
// whatever is fed, and whatever keys it takes, there is no packet.
func over(t *testing.T, r *packet.Reader) {
	t.Helper()
	count, number := r.Count(), r.Number()
	for range 3 {
		if r.Left() {
			t.Fatal("something is left")
		}
		fails(t, r, api.ErrOver)
		stands(t, r, count, number)
		r.Feed((&peer{}).write([]byte("text"), ""))
	}
	k := packet.Keys{Key: make([]byte, 16), Iv: make([]byte, 16), Mac: make([]byte, 32)}
	takes(t, r, k)
	p := peer{number: number}
	p.take(k)
	r.Feed(p.write([]byte("text"), ""))
	fails(t, r, api.ErrOver)
}

// P7.1: what the first four bytes may say, as soon as 8 (16) bytes are there:
// 5 or more, up to 2348, and with 4 more a multiple of 8 (16).
func TestNextOfEveryLength(t *testing.T) {
	rnd := rand.New(rand.NewSource(20))
	for _, sealed := range []bool{false, true} {
		lengths := []uint32{1 << 16, 1<<16 + 12, 1 << 24, 1<<24 + 12, 1<<31 - 4, 1<<31 + 12, 1<<32 - 4, 1<<32 - 20, 1<<32 - 1}
		for n := range uint32(2500) {
			lengths = append(lengths, n)
		}
		for _, n := range lengths {
			r, p := both(t, rnd, sealed)
			unit := uint32(p.unit())
			r.Feed(p.write([]byte("first"), ""))
			b := p.seal(plainOf(n, 4, make([]byte, unit-5)))[:unit]
			r.Feed(b[:unit-1])
			reads(t, r, []byte("first"))
			fails(t, r, api.ErrWait)
			r.Feed(b[unit-1:])
			if n >= 5 && n <= 2348 && n%unit == unit-4 {
				fails(t, r, api.ErrWait)
				if !r.Left() {
					t.Fatalf("of length %d nothing is left", n)
				}
				continue
			}
			fails(t, r, api.ErrLen)
			stands(t, r, 1, 1)
			over(t, r)
		}
	}
}

// P7.1: ErrForm, if the padding is below 4, or the payload empty, or there is
// less than the padding; ahead of that the packet's code must be right.
func TestNextOfWrongPadding(t *testing.T) {
	rnd := rand.New(rand.NewSource(21))
	for _, sealed := range []bool{false, true} {
		for _, whole := range []int{16, 32, 48, 240, 256, 272, 2352} {
			for pad := range 256 {
				r, p := both(t, rnd, sealed)
				r.Feed(p.write([]byte("first"), ""))
				plain := plainOf(uint32(whole-4), pad, someBytes(rnd, whole-5))
				b := p.seal(plain)
				r.Feed(b[:len(b)-1])
				reads(t, r, []byte("first"))
				fails(t, r, api.ErrWait)
				r.Feed(b[len(b)-1:])
				if pad >= 4 && pad <= whole-6 {
					reads(t, r, plain[5:whole-pad])
					continue
				}
				fails(t, r, api.ErrForm)
				stands(t, r, 1, 1)
				over(t, r)
			}
		}
	}
}

// P7.1: ErrMac comes ahead of ErrForm.
func TestNextOfWrongCodeAndPadding(t *testing.T) {
	rnd := rand.New(rand.NewSource(22))
	for _, pad := range []int{0, 3, 11, 200} {
		r, p := both(t, rnd, true)
		b := p.seal(plainOf(12, pad, make([]byte, 11)))
		b[20] ^= 1
		r.Feed(b)
		fails(t, r, api.ErrMac)
		over(t, r)
	}
}

// P7.1: each bit of a sealed packet that is turned. One of the length may make
// another length of it, which waits for what never comes.
func TestNextOfEachBitTurned(t *testing.T) {
	rnd := rand.New(rand.NewSource(23))
	payload := someBytes(rnd, 40)
	for i := range 8 * (64 + 32) {
		r, p := both(t, rnd, true)
		r.Feed(p.write([]byte("first"), ""))
		reads(t, r, []byte("first"))
		b := p.write(payload, "draw")
		if len(b) != 64+32 {
			t.Fatalf("the test's own packet: %d bytes", len(b))
		}
		b[i/8] ^= 0x80 >> (i % 8)
		r.Feed(b)
		want := api.ErrMac
		if i < 32 { // 60 without the bit, or with it
			if n := uint32(60) ^ 1<<(31-i); n < 5 || n > 2348 || n%16 != 12 {
				want = api.ErrLen
			} else if n > 60 {
				want = api.ErrWait
			}
		}
		fails(t, r, want)
		stands(t, r, 1, 1)
		if want != api.ErrWait {
			over(t, r)
		} else if !r.Left() {
			t.Errorf("bit %d turned: nothing is left", i)
		}
	}
}

// P7.1: a packet's code is of its number: one that is left out, comes twice, or
// comes ahead of another is none.
func TestNextOfAnotherNumber(t *testing.T) {
	rnd := rand.New(rand.NewSource(24))
	k := someKeys(rnd)
	for n := range uint32(4) {
		var r packet.Reader
		takes(t, &r, k)
		p := peer{number: n}
		p.take(k)
		r.Feed(p.write([]byte("text"), "draw"))
		if n == 0 {
			reads(t, &r, []byte("text"))
			continue
		}
		fails(t, &r, api.ErrMac)
		over(t, &r)
	}
}

// P7.1: packets under other keys: another key of codes is ErrMac; of another
// key or counter, whatever the bytes say.
func TestNextUnderOtherKeys(t *testing.T) {
	rnd := rand.New(rand.NewSource(25))
	for i := range 8 * 64 {
		k := someKeys(rnd)
		var p peer
		p.take(k)
		b := p.write([]byte("text"), "draw")
		all := bytes.Join([][]byte{k.Key, k.Iv, k.Mac}, nil)
		all[i/8] ^= 1 << (i % 8)
		other := packet.Keys{Key: all[:16], Iv: all[16:32], Mac: all[32:]}
		var r packet.Reader
		takes(t, &r, other)
		r.Feed(b)
		m := model{keys: other, all: b}
		_, want := m.next()
		if want == api.OK || i >= 8*32 && want != api.ErrMac {
			t.Fatalf("the test's own answer: %d", want)
		}
		fails(t, &r, want)
	}
}
