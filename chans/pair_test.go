package chans_test

import (
	"encoding/binary"
	"math/rand"
	"strings"
	"testing"

	"tabulary/api"
	"tabulary/chans"
)

// A road carries messages from one end to another one, and looks at them.
type road struct {
	from, to  *chans.Chan
	way       [][]byte // messages under way
	sent, got string   // what was sent, and received
	may       int      // how many bytes more may go out
}

// A pair is two ends, and the roads there and back.
type pair struct {
	rnd         *rand.Rand
	there, back *road
}

// newPair answers ends that are begun.
func newPair(t *testing.T, rnd *rand.Rand) *pair {
	a, b := chans.New(false), chans.New(true)
	is(t, a.Begin(), api.OK)
	return &pair{rnd, &road{from: a, to: b, may: 4096}, &road{from: b, to: a, may: 4096}}
}

// gather lays what goes out on the road, and holds it against the window.
func (r *road) gather(t *testing.T) {
	t.Helper()
	for _, p := range r.from.Out() {
		if p[0] == chans.MsgData {
			n := len(p) - 9
			if n < 1 || n > 512 || n > r.may {
				t.Fatalf("%d bytes go out, where %d may", n, r.may)
			}
			r.may -= n
		}
		r.way = append(r.way, p)
	}
}

// carry brings up to n messages to the other end; back is the road back.
func (r *road) carry(t *testing.T, n int, back *road) {
	t.Helper()
	r.gather(t)
	for range min(n, len(r.way)) {
		p := r.way[0]
		r.way = r.way[1:]
		if e := r.to.Take(p); e != api.OK {
			t.Fatalf("Take(%q): %d", clip(string(p)), e)
		}
		if p[0] == chans.MsgAdjust {
			back.may += int(binary.BigEndian.Uint32(p[5:]))
		}
		back.gather(t)
	}
}

// send sends, if that may be.
func (r *road) send(s string) {
	if r.from.Send([]byte(s)) == api.OK {
		r.sent += s
	}
}

// receive fails the test unless what was received is a beginning of what was
// sent.
func (r *road) receive(t *testing.T) {
	t.Helper()
	r.got += string(r.to.Recv())
	if !strings.HasPrefix(r.sent, r.got) {
		t.Fatalf("%d bytes were received that aren't those sent", len(r.got))
	}
}

// step does something, at one of the two ends.
func (p *pair) step(t *testing.T) {
	t.Helper()
	r, back := p.there, p.back
	if p.rnd.Intn(2) == 0 {
		r, back = back, r
	}
	switch p.rnd.Intn(4) {
	case 0:
		b := make([]byte, []int{p.rnd.Intn(30), p.rnd.Intn(3000), p.rnd.Intn(9000)}[p.rnd.Intn(3)])
		p.rnd.Read(b)
		r.send(string(b))
	case 1:
		r.receive(t)
	default:
		r.carry(t, 1+p.rnd.Intn(6), back)
	}
}

// settle carries and receives till nothing is under way any more.
func (p *pair) settle(t *testing.T) {
	t.Helper()
	for {
		p.there.receive(t)
		p.back.receive(t)
		p.there.gather(t)
		p.back.gather(t)
		if len(p.there.way)+len(p.back.way) == 0 {
			return
		}
		p.there.carry(t, 1000, p.back)
		p.back.carry(t, 1000, p.there)
	}
}

// P10.2: what one end sends comes to the other one in order, and all of it, if
// that one reads; no more goes out than the window.
func TestFlow(t *testing.T) {
	rnd := rand.New(rand.NewSource(3))
	for range 60 {
		p := newPair(t, rnd)
		for range 200 {
			p.step(t)
		}
		p.settle(t)
		for _, r := range []*road{p.there, p.back} {
			if r.got != r.sent || r.from.Pending() != 0 || r.may != 4096 {
				t.Fatalf("%d of %d bytes were received, %d wait, %d may go out", len(r.got), len(r.sent), r.from.Pending(), r.may)
			}
			if len(r.sent) < 10000 {
				t.Fatalf("the test's own steps: %d bytes were sent", len(r.sent))
			}
		}
	}
}

// P10.2: of an end that doesn't read no more is heard than its room.
func TestNobodyReads(t *testing.T) {
	rnd := rand.New(rand.NewSource(4))
	p := newPair(t, rnd)
	p.settle(t)
	for _, r := range []*road{p.there, p.back} {
		for range 20 {
			r.send(long(1000))
		}
	}
	for range 10 {
		p.there.carry(t, 1000, p.back)
		p.back.carry(t, 1000, p.there)
	}
	for _, r := range []*road{p.there, p.back} {
		if r.from.Pending() != 20000-4096 || r.may != 0 {
			t.Fatal(r.from.Pending(), r.may)
		}
		if b := r.to.Recv(); string(b) != r.sent[:4096] {
			t.Fatalf("%d bytes came", len(b))
		}
	}
}

// P10.2: an end that closes, at any time: what was received is a beginning of
// what was sent, no message is wrong, and both come to be Shut.
func TestFlowTillClosed(t *testing.T) {
	rnd := rand.New(rand.NewSource(5))
	for i := range 200 {
		p := newPair(t, rnd)
		for range rnd.Intn(60) {
			p.step(t)
		}
		closed := false
		for range 1000 {
			if p.there.from.Close() == api.OK {
				closed = true
				break
			}
			p.step(t)
		}
		if i%3 == 0 && p.back.from.Ready() {
			p.back.from.Close()
		}
		for range rnd.Intn(60) {
			p.step(t)
		}
		p.settle(t)
		if !closed || p.there.from.State() != chans.Shut || p.back.from.State() != chans.Shut {
			t.Fatal(closed, p.there.from.State(), p.back.from.State())
		}
	}
}

// P10.2: all that had been sent ahead of a close, if the window was wide enough,
// is received behind it.
func TestReceivedBehindClose(t *testing.T) {
	p := newPair(t, rand.New(rand.NewSource(6)))
	p.settle(t)
	p.there.send(long(4096))
	is(t, p.there.from.Close(), api.OK)
	p.there.carry(t, 1000, p.back)
	p.back.carry(t, 1000, p.there)
	p.there.receive(t)
	if p.there.got != p.there.sent || p.there.from.State() != chans.Shut || p.back.from.State() != chans.Shut {
		t.Fatal(len(p.there.got))
	}
}
