package packet_test

import (
	"bytes"
	"math/rand"
	"testing"

	"tabulary/api"
	"tabulary/packet"
)

// reads fails the test if the next payload isn't want.
func reads(t *testing.T, r *packet.Reader, want []byte) {
	t.Helper()
	if got, e := r.Next(); e != api.OK || !bytes.Equal(got, want) {
		t.Fatalf("Next: %x, %d, want %x", got, e, want)
	}
}

// fails fails the test if Next doesn't answer that error.
func fails(t *testing.T, r *packet.Reader, want api.Errno) {
	t.Helper()
	if got, e := r.Next(); e != want || len(got) != 0 {
		t.Fatalf("Next: %x, %d, want error %d", got, e, want)
	}
}

// both answers a reader and a peer of the same keys; without any, if none.
func both(t *testing.T, rnd *rand.Rand, sealed bool) (*packet.Reader, *peer) {
	t.Helper()
	var r packet.Reader
	var p peer
	if sealed {
		rekey(t, rnd, &p, &r)
	}
	return &r, &p
}

// P7.1: packets with every padding from 4 to 255, of every length that may be,
// short payloads and those above MaxPacket.
func TestNextOfEveryPadding(t *testing.T) {
	rnd := rand.New(rand.NewSource(10))
	for _, sealed := range []bool{false, true} {
		r, p := both(t, rnd, sealed)
		for pad := 4; pad < 256; pad++ {
			for _, whole := range []int{16, 32, 48, 256, 272, 288, 2048, 2064, 2352} {
				if n := whole - 5 - pad; n > 0 {
					payload := someBytes(rnd, n)
					r.Feed(p.seal(padded(payload, pad)))
					reads(t, r, payload)
				}
			}
		}
		for whole := p.unit(); whole <= 2352; whole += p.unit() {
			if n := whole - 5 - 4; n > 0 {
				payload := someBytes(rnd, n)
				r.Feed(p.seal(padded(payload, 4)))
				reads(t, r, payload)
			}
		}
		fails(t, r, api.ErrWait)
	}
}

// P7.1: wherever a packet is cut, it waits, and is left; nothing is, ahead of
// it and behind.
func TestNextWaits(t *testing.T) {
	rnd := rand.New(rand.NewSource(11))
	for _, sealed := range []bool{false, true} {
		r, p := both(t, rnd, sealed)
		for i, n := range []int{1, 2, 3, 4, 7, 8, 19, 20, 100} {
			payload := someBytes(rnd, n)
			b := p.write(payload, "draw")
			for j, x := range b {
				if r.Left() != (j > 0) {
					t.Fatalf("Left, ahead of byte %d: %t", j, r.Left())
				}
				fails(t, r, api.ErrWait)
				fails(t, r, api.ErrWait)
				stands(t, r, i, uint32(i))
				r.Feed([]byte{x})
				r.Feed(nil)
			}
			if !r.Left() {
				t.Fatal("a packet that wasn't read isn't left")
			}
			reads(t, r, payload)
			if r.Left() {
				t.Fatal("something is left")
			}
			stands(t, r, i+1, uint32(i+1))
		}
	}
}

// P7.1: however bytes are cut, and whether or not somebody asks in between, the
// packets are the same.
func TestNextOfAnyCut(t *testing.T) {
	rnd := rand.New(rand.NewSource(12))
	for i := range 60 {
		r, p := both(t, rnd, i%2 == 1)
		var all []byte
		var payloads [][]byte
		for range 30 {
			payload := someBytes(rnd, 1+rnd.Intn(1+rnd.Intn(2048)))
			payloads = append(payloads, payload)
			all = append(all, p.write(payload, "draw")...)
		}
		most, seldom := 1+rnd.Intn(3000), 1+rnd.Intn(4)
		for len(all) > 0 {
			n := min(rnd.Intn(most+1), len(all))
			r.Feed(all[:n])
			all = all[n:]
			for rnd.Intn(seldom) == 0 && len(payloads) > 0 {
				got, e := r.Next()
				if e == api.ErrWait {
					break
				}
				if e != api.OK || !bytes.Equal(got, payloads[0]) {
					t.Fatalf("Next: %x, %d, want %x", got, e, payloads[0])
				}
				payloads = payloads[1:]
			}
		}
		for _, payload := range payloads {
			if !r.Left() {
				t.Fatal("nothing is left")
			}
			reads(t, r, payload)
		}
		fails(t, r, api.ErrWait)
		if r.Left() {
			t.Fatal("something is left")
		}
		stands(t, r, 30, 30)
	}
}

// P7.1: of a nil *Reader: ErrOver, false.
func TestNilReader(t *testing.T) {
	var r *packet.Reader
	for range 2 {
		fails(t, r, api.ErrOver)
		if r.Left() {
			t.Error("Left of nil")
		}
		r.Feed(make([]byte, 100))
	}
}

// The fourth rule: what is fed isn't changed, the room behind it neither, and
// not kept; what is answered is new memory.
func TestFeedChangesAndKeepsNothing(t *testing.T) {
	rnd := rand.New(rand.NewSource(13))
	for _, sealed := range []bool{false, true} {
		r, p := both(t, rnd, sealed)
		var all []byte
		for range 20 {
			all = append(all, p.write([]byte("a payload"), "draw")...)
		}
		for len(all) > 0 {
			n := min(1+rnd.Intn(100), len(all))
			room := append(bytes.Clone(all[:n]), "behind"...)
			before := bytes.Clone(room)
			r.Feed(room[:n])
			if n%3 == 0 {
				clear(room)
				clear(before)
			}
			for {
				got, e := r.Next()
				if e == api.ErrWait {
					break
				}
				if e != api.OK || string(got) != "a payload" {
					t.Fatalf("Next: %q, %d", got, e)
				}
				clear(got[:cap(got)])
			}
			if !bytes.Equal(room, before) {
				t.Fatalf("what was fed is %x, was %x", room, before)
			}
			clear(room)
			all = all[n:]
		}
		stands(t, r, 20, 20)
	}
}
