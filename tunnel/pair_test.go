package tunnel_test

import (
	"math/rand"
	"strings"
	"testing"

	"tabulary/api"
	"tabulary/tunnel"
)

// A road carries bytes from one side to the other one.
type road struct {
	from, to  *tunnel.Side
	way       []byte
	sent, got string // what was sent, and received
}

// gather lays what goes out on the road.
func (r *road) gather() {
	r.way = append(r.way, r.from.Out()...)
}

// carry brings up to n bytes to the other side.
func (r *road) carry(n int) {
	r.gather()
	n = min(n, len(r.way))
	r.to.Feed(r.way[:n])
	r.way = r.way[n:]
}

// send sends, if that may be.
func (r *road) send(s string) {
	if r.from.Send([]byte(s)) == api.OK {
		r.sent += s
	}
}

// receive fails the test unless what was received is a beginning of what was
// sent.
func (r *road) receive(t *testing.T) {
	t.Helper()
	r.got += string(r.to.Recv())
	if !strings.HasPrefix(r.sent, r.got) {
		t.Fatalf("%d bytes were received that aren't those sent", len(r.got))
	}
}

// A pair is a client and a server, and the roads there and back.
type pair struct {
	t             *testing.T
	rnd           *rand.Rand
	client, other *tunnel.Side
	roads         [2]*road
}

// newPair answers sides of plans.
func newPair(t *testing.T, rnd *rand.Rand, client, server tunnel.Plan) *pair {
	t.Helper()
	a, e := tunnel.New(client)
	b, f := tunnel.New(server)
	if e != api.OK || f != api.OK {
		t.Fatal(e, f)
	}
	return &pair{t, rnd, a, b, [2]*road{{from: a, to: b}, {from: b, to: a}}}
}

// size answers how many bytes are carried at once.
func (p *pair) size() int {
	return []int{1, 1 + p.rnd.Intn(70), 1 + p.rnd.Intn(2000), 100000}[p.rnd.Intn(4)]
}

// settle carries and receives till nothing is under way any more.
func (p *pair) settle() {
	p.t.Helper()
	for range 100000 {
		for _, r := range p.roads {
			r.carry(p.size())
			r.receive(p.t)
		}
		p.roads[0].gather()
		p.roads[1].gather()
		if len(p.roads[0].way)+len(p.roads[1].way) == 0 {
			return
		}
	}
	p.t.Fatal("it doesn't come to an end")
}

// step does something, at one of the two sides.
func (p *pair) step() {
	p.t.Helper()
	r := p.roads[p.rnd.Intn(2)]
	switch p.rnd.Intn(8) {
	case 0:
		b := make([]byte, []int{p.rnd.Intn(30), p.rnd.Intn(3000), p.rnd.Intn(9000)}[p.rnd.Intn(3)])
		p.rnd.Read(b)
		r.send(string(b))
	case 1:
		r.receive(p.t)
	case 2:
		if p.rnd.Intn(8) == 0 {
			r.from.Rekey()
		}
	default:
		r.carry(p.size())
	}
}

// isReady fails the test unless both sides are ready, and the user is in.
func (p *pair) isReady(user string) {
	p.t.Helper()
	for _, s := range []*tunnel.Side{p.client, p.other} {
		if s.Stage() != tunnel.Chan || !s.Ready() || s.Shut() || s.Why() != api.OK {
			p.t.Fatalf("stage %d, why %d", s.Stage(), s.Why())
		}
	}
	if p.client.User() != "" || p.other.User() != user {
		p.t.Fatalf("%q is in, want %q", p.other.User(), user)
	}
}

// P11.1: who knows the host's key, or takes any, and their password or key, comes
// in, however bytes are cut.
func TestTheyComeIn(t *testing.T) {
	rnd := rand.New(rand.NewSource(2))
	for i := range 60 {
		client := []tunnel.Plan{clientPlan, keyPlan, {Pass: "nobody's"}}[i%3]
		client.Draw = drawn("c", uint64(i))[:rnd.Intn(33)]
		if i%2 == 0 {
			client.Host = pubOf(hostSeed)
		}
		server := serverPlan
		server.Draw = drawn("s", uint64(i))[:rnd.Intn(33)]
		server.Tries = 1 + i%4
		p := newPair(t, rnd, client, server)
		p.settle()
		p.isReady(client.User)
	}
}

// P11.1: who doesn't, doesn't: both sides are over, and nobody is let in.
func TestTheyDontComeIn(t *testing.T) {
	rnd := rand.New(rand.NewSource(3))
	for i, c := range []struct {
		client tunnel.Plan
		why    api.Errno // of the client
	}{
		{tunnel.Plan{User: "ann", Pass: "a passwor"}, api.ErrAgree},
		{tunnel.Plan{User: "ann", Pass: "a passworda"}, api.ErrAgree},
		{tunnel.Plan{User: "ann"}, api.ErrAgree},
		{tunnel.Plan{User: "Ann", Pass: "a password"}, api.ErrAgree},
		{tunnel.Plan{User: "bob", Pass: ""}, api.ErrAgree},
		{tunnel.Plan{User: "bob", Pass: userSeed}, api.ErrAgree},
		{tunnel.Plan{User: "bob", Seed: seedOf("e")}, api.ErrAgree},
		{tunnel.Plan{User: "ann", Pass: "a password", Seed: userSeed}, api.ErrAgree},
		{tunnel.Plan{User: "eve", Seed: userSeed}, api.ErrAgree},
		{tunnel.Plan{User: "ann", Pass: "a password", Host: pubOf(userSeed)}, api.ErrSign},
		{tunnel.Plan{User: "bob", Seed: userSeed, Host: seedOf("\x00")}, api.ErrSign},
	} {
		for _, tries := range []int{1, 2, 100} {
			server := serverPlan
			server.Tries = tries
			why := [2]api.Errno{c.why, api.ErrOver}
			if tries == 1 && c.why == api.ErrAgree {
				why[0] = api.ErrOver // it is the gate's error, which the client is told
			}
			p := newPair(t, rnd, c.client, server)
			for range 3 {
				p.settle()
				for j, s := range []*tunnel.Side{p.client, p.other} {
					if s.Stage() != tunnel.Over || s.Why() != why[j] || s.User() != "" || !s.Shut() {
						t.Fatalf("%d, %d tries, side %d: stage %d, why %d", i, tries, j, s.Stage(), s.Why())
					}
					s.Send([]byte("x"))
				}
			}
			if p.roads[0].got+p.roads[1].got != "" {
				t.Fatal("something was received")
			}
		}
	}
}

// P11.2: what is sent is received, in order and all of it, across new keys and
// windows that are full.
func TestAllArrives(t *testing.T) {
	rnd := rand.New(rand.NewSource(4))
	for i := range 8 {
		p := newPair(t, rnd, []tunnel.Plan{clientPlan, keyPlan}[i%2], serverPlan)
		if i%4 == 0 {
			p.settle()
		}
		for range 1000 {
			p.step()
		}
		p.settle()
		p.isReady(p.other.User())
		for _, r := range p.roads {
			if r.got != r.sent || len(r.sent) < 20000 {
				t.Fatalf("%d of %d bytes were received", len(r.got), len(r.sent))
			}
		}
	}
}

// P11.2: a side that leaves, or a connection that is cut or broken: what was
// received is a beginning of what was sent.
func TestTillTheEnd(t *testing.T) {
	rnd := rand.New(rand.NewSource(5))
	for i := range 48 {
		p := newPair(t, rnd, clientPlan, serverPlan)
		p.settle()
		for range rnd.Intn(200) {
			p.step()
		}
		r := p.roads[rnd.Intn(2)]
		switch i % 4 {
		case 0:
			r.from.Leave()
		case 1:
			r.from.Break()
		case 2:
			r.send("behind it a byte is turned")
			r.gather()
			if len(r.way) > 0 {
				r.way[rnd.Intn(len(r.way))] ^= byte(1 + rnd.Intn(255))
			}
		case 3:
			r.gather()
			r.way = r.way[:len(r.way)*rnd.Intn(3)/3]
		}
		for range rnd.Intn(100) {
			p.step()
		}
		p.settle()
		if i%4 == 0 && (!p.client.Shut() || !p.other.Shut() || p.client.Stage() != tunnel.Chan || p.other.Stage() != tunnel.Chan) {
			t.Fatal("one of them left, and it isn't shut")
		}
	}
}

// P11.3: ahead of being let in nothing is received, wherever it has come, and
// whatever byte was turned on the way.
func TestNobodyIsInByATurnedByte(t *testing.T) {
	rnd := rand.New(rand.NewSource(6))
	for range 150 {
		p := newPair(t, rnd, clientPlan, serverPlan)
		for range rnd.Intn(9) {
			p.roads[rnd.Intn(2)].carry(1 + rnd.Intn(700))
		}
		r := p.roads[rnd.Intn(2)]
		r.gather()
		if len(r.way) > 0 {
			r.way[rnd.Intn(len(r.way))] ^= byte(1 + rnd.Intn(255))
		}
		p.settle()
		for _, r := range p.roads {
			r.send("something")
		}
		p.settle()
		if p.other.User() == "" && p.roads[0].got+p.roads[1].got != "" {
			t.Fatal("something was received, and nobody is in")
		}
	}
}

// P11.3: a client of a wrong password says all that it could say, and more.
func TestNobodyIsInByForce(t *testing.T) {
	p := atAuth(t, serverPlan)
	p.say(service, password("ann", "x"), password("ann", "y"), wish, netconf, data("x"))
	p.wants(accept, failure, bye(9))
	if p.side.User() != "" || len(p.side.Recv()) > 0 || p.side.Ready() {
		t.Fatal("somebody is in")
	}
}

// P0 and P11.4: any bytes, at every stage, end it or wait; no call panics.
func TestAnyBytes(t *testing.T) {
	rnd := rand.New(rand.NewSource(7))
	for i := range 400 {
		p := everyStage[i%6](t, bothPlans[i/6%2])
		for range rnd.Intn(20) {
			b := make([]byte, rnd.Intn(60))
			rnd.Read(b)
			switch rnd.Intn(8) {
			case 0:
				p.side.Feed(b)
			case 1:
				p.side.Send(b)
				p.side.Recv()
			case 2:
				p.side.Rekey()
				p.side.Leave()
			case 3:
				p.say("\x14" + string(b))
			default:
				kinds := []byte{0, 1, 2, 5, 6, 20, 21, 30, 31, 50, 51, 52, 60, 80, 90, 91, 94, 97, 98, 99, byte(rnd.Intn(256))}
				p.say(string(append([]byte{kinds[rnd.Intn(len(kinds))]}, b...)))
			}
		}
		p.side.Break()
		p.side.Out()
		p.is(tunnel.Over, p.side.Why())
		if len(p.side.Out()) > 0 || p.side.Why() == api.OK {
			t.Fatal("something goes out")
		}
	}
}
