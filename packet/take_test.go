package packet_test

import (
	"bytes"
	"math/rand"
	"testing"

	"tabulary/api"
	"tabulary/packet"
)

// P7.1: a key and a counter of 16 bytes, and a key of codes of 32: neither fewer
// nor more, of a writer and of a reader.
func TestTakeOfWrongLengths(t *testing.T) {
	room := make([]byte, 300)
	lengths := []int{0, 1, 8, 15, 16, 17, 24, 31, 32, 33, 64, 256, 272, 288}
	for _, x := range []taker{&packet.Writer{}, &packet.Reader{}} {
		for _, key := range lengths {
			for _, iv := range lengths {
				for _, mac := range lengths {
					want := api.ErrLen
					if key == 16 && iv == 16 && mac == 32 {
						want = api.OK
					}
					if e := x.Take(packet.Keys{Key: room[:key], Iv: room[:iv], Mac: room[:mac]}); e != want {
						t.Errorf("Take of %d, %d and %d bytes: %d, want %d", key, iv, mac, e, want)
					}
				}
			}
		}
		if e := x.Take(packet.Keys{}); e != api.ErrLen {
			t.Errorf("Take of no keys: %d, want ErrLen", e)
		}
	}
}

// wrongKeys answers keys of which one has another length.
func wrongKeys() []packet.Keys {
	a, b := make([]byte, 16), make([]byte, 32)
	return []packet.Keys{{}, {Key: a[:15], Iv: a, Mac: b}, {Key: a, Iv: b, Mac: b}, {Key: a, Iv: a, Mac: b[:31]}, {Key: a, Iv: a}}
}

// P7.1, the third rule: a Take that answers ErrLen has changed nothing: without
// keys there are none, with keys they go on, and so do count and number.
func TestTakeThatFailsChangesNothing(t *testing.T) {
	rnd := rand.New(rand.NewSource(5))
	var w packet.Writer
	var r packet.Reader
	var p peer
	for i := range 12 {
		if i == 6 {
			rekey(t, rnd, &p, &w, &r)
		}
		for _, k := range wrongKeys() {
			if w.Take(k) != api.ErrLen || r.Take(k) != api.ErrLen {
				t.Fatalf("Take of %d, %d and %d bytes isn't ErrLen", len(k.Key), len(k.Iv), len(k.Mac))
			}
		}
		stands(t, &w, i%6, uint32(i))
		stands(t, &r, i%6, uint32(i))
		payload := someBytes(rnd, 1+rnd.Intn(50))
		b := p.write(payload, "draw")
		if got := written(t, &w, payload, "draw"); !bytes.Equal(got, b) {
			t.Fatalf("packet %d: %x, want %x", i, got, b)
		}
		r.Feed(b)
		reads(t, &r, payload)
	}
}

// P7.1: with each new keys the count begins at 0, the number goes on, and the
// stream begins anew, with the same keys too.
func TestTakeAgain(t *testing.T) {
	rnd := rand.New(rand.NewSource(6))
	var w packet.Writer
	var r packet.Reader
	var p peer
	same := someKeys(rnd)
	for i := range 30 {
		k := same
		if i%3 == 2 {
			k = someKeys(rnd)
		}
		takes(t, &w, k)
		takes(t, &r, k)
		p.take(k)
		for j := range i {
			stands(t, &w, j, p.number)
			stands(t, &r, j, p.number)
			payload := someBytes(rnd, 1+rnd.Intn(50))
			b := p.write(payload, "draw")
			if got := written(t, &w, payload, "draw"); !bytes.Equal(got, b) {
				t.Fatalf("packet %d under keys %d: %x, want %x", j, i, got, b)
			}
			r.Feed(b)
			reads(t, &r, payload)
		}
		stands(t, &w, i, p.number)
		stands(t, &r, i, p.number)
	}
}

// The fourth rule: keys that are handed in aren't changed, nor kept.
func TestTakeChangesAndKeepsNothing(t *testing.T) {
	rnd := rand.New(rand.NewSource(7))
	all := someBytes(rnd, 200)
	before := bytes.Clone(all)
	k := packet.Keys{Key: all[10:26], Iv: all[50:66], Mac: all[100:132]}
	var w packet.Writer
	var r packet.Reader
	var p peer
	takes(t, &w, k)
	takes(t, &r, k)
	p.take(packet.Keys{Key: before[10:26], Iv: before[50:66], Mac: before[100:132]})
	for i := range 10 {
		if i == 5 {
			if !bytes.Equal(all, before) {
				t.Fatal("what was handed in has changed")
			}
			clear(all)
		}
		b := p.write([]byte("a payload"), "draw")
		if got := written(t, &w, []byte("a payload"), "draw"); !bytes.Equal(got, b) {
			t.Fatalf("packet %d: %x, want %x", i, got, b)
		}
		r.Feed(b)
		reads(t, &r, []byte("a payload"))
	}
}
