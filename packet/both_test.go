package packet_test

import (
	"bytes"
	"math/rand"
	"testing"

	"tabulary/api"
	"tabulary/packet"
)

// P7.2: what is written is read as it was, every length of payloads, across new
// keys.
func TestThereAndBack(t *testing.T) {
	rnd := rand.New(rand.NewSource(30))
	var w packet.Writer
	var r packet.Reader
	for n := 1; n <= 2048; n++ {
		if rnd.Intn(20) == 0 {
			k := someKeys(rnd)
			takes(t, &w, k)
			takes(t, &r, k)
		}
		payload := someBytes(rnd, n)
		r.Feed(written(t, &w, payload, "draw"))
		reads(t, &r, payload)
		stands(t, &w, r.Count(), uint32(n))
		stands(t, &r, w.Count(), uint32(n))
	}
}

// P7.2: many packets at once, cut anywhere.
func TestThereAndBackInParts(t *testing.T) {
	rnd := rand.New(rand.NewSource(31))
	for range 50 {
		var w packet.Writer
		var r packet.Reader
		for range 5 {
			var all []byte
			var payloads [][]byte
			for range rnd.Intn(12) {
				payload := someBytes(rnd, 1+rnd.Intn(300))
				payloads = append(payloads, payload)
				all = append(all, written(t, &w, payload, "draw")...)
			}
			for len(all) > 0 {
				n := 1 + rnd.Intn(len(all))
				r.Feed(all[:n])
				all = all[n:]
			}
			for _, payload := range payloads {
				reads(t, &r, payload)
			}
			fails(t, &r, api.ErrWait)
			k := someKeys(rnd)
			takes(t, &w, k)
			takes(t, &r, k)
		}
	}
}

// someStream answers bytes of a few packets, most of them right, with keys that
// the peer has.
func someStream(rnd *rand.Rand, p *peer) []byte {
	var all []byte
	for range rnd.Intn(6) {
		whole := p.unit() * (1 + rnd.Intn(20))
		pad := 4 + rnd.Intn(min(252, max(1, whole-9)))
		plain := plainOf(uint32(whole-4), pad, someBytes(rnd, whole-5))
		switch rnd.Intn(25) {
		case 0:
			plain[4] = byte(rnd.Intn(256))
		case 1:
			plain[rnd.Intn(4)] ^= 1 << rnd.Intn(8)
		case 2:
			plain[3] = byte(rnd.Intn(256))
		}
		b := p.seal(plain)
		switch rnd.Intn(40) {
		case 0:
			b[rnd.Intn(len(b))] ^= 1 << rnd.Intn(8)
		case 1:
			b = b[:rnd.Intn(len(b))]
		}
		all = append(all, b...)
	}
	return all
}

// asModel fails the test if a reader answers otherwise than the model.
func asModel(t *testing.T, r *packet.Reader, m *model) api.Errno {
	t.Helper()
	got, e := r.Next()
	want, f := m.next()
	if e != f || !bytes.Equal(got, want) {
		t.Fatalf("Next: %x, %d, want %x, %d", got, e, want, f)
	}
	if r.Left() != m.left() {
		t.Fatalf("Left: %t, want %t", r.Left(), m.left())
	}
	stands(t, r, m.count, m.number)
	return e
}

// P7.1: any bytes, cut anywhere: what the chapter's words say of all of them,
// reckoned anew each time.
func TestNextOfAnyBytes(t *testing.T) {
	rnd := rand.New(rand.NewSource(32))
	told := map[api.Errno]int{}
	for range 2000 {
		var r packet.Reader
		var m model
		var p peer
		for range 4 {
			all := someStream(rnd, &p)
			for len(all) > 0 {
				n := 1 + rnd.Intn(len(all))
				r.Feed(all[:n])
				m.all = append(m.all, all[:n]...)
				all = all[n:]
				for e := api.OK; e == api.OK; {
					e = asModel(t, &r, &m)
					told[e]++
				}
			}
			if m.left() {
				break // new keys aren't taken here
			}
			k := someKeys(rnd)
			takes(t, &r, k)
			m.take(k)
			p.take(k)
		}
	}
	for _, e := range []api.Errno{api.OK, api.ErrWait, api.ErrLen, api.ErrMac, api.ErrForm, api.ErrOver} {
		if told[e] < 50 {
			t.Errorf("the test's own bytes: error %d came %d times", e, told[e])
		}
	}
}

// P0: keys that are taken while bytes wait: nothing is said of the answers, but
// nothing panics.
func TestTakeAmidBytes(t *testing.T) {
	rnd := rand.New(rand.NewSource(33))
	for range 3000 {
		var r packet.Reader
		var p peer
		for range 4 {
			b := someStream(rnd, &p)
			r.Feed(b[:rnd.Intn(len(b)+1)])
			for range rnd.Intn(4) {
				r.Next()
			}
			k := someKeys(rnd)
			takes(t, &r, k)
			p.take(k)
		}
	}
}
