package tunnel_test

import (
	"encoding/binary"
	"strings"
	"testing"

	"tabulary/api"
	"tabulary/tunnel"
)

const ownLine = "SSH-2.0-tabulary"

// seedOf answers a seed.
func seedOf(c string) string {
	return strings.Repeat(c, 32)
}

// Plans that may be, and fit each other.
var (
	hostSeed, userSeed = seedOf("h"), seedOf("u")

	users = []api.User{
		{Name: "ann", Password: "a password"},
		{Name: "bob", Key: pubOf(userSeed), Groups: []string{"g"}},
		{Name: "", Password: "nobody's"},
	}

	serverPlan  = tunnel.Plan{Server: true, Draw: "of a server", Host: hostSeed, Users: users, Tries: 2}
	clientPlan  = tunnel.Plan{Draw: "of a client", Host: pubOf(hostSeed), User: "ann", Pass: "a password"}
	keyPlan     = tunnel.Plan{Draw: "of a client", User: "bob", Seed: userSeed}
	bothPlans   = []tunnel.Plan{clientPlan, serverPlan}
	everyStage  = []func(t *testing.T, plan tunnel.Plan) *peer{atLines, atKeys, atAsk, atAuth, atChan, ready}
	everyPacket = everyStage[1:]
)

// A peer is the other side of a side; it says whatever a test has it say.
type peer struct {
	t       *testing.T
	side    *tunnel.Side
	plan    tunnel.Plan // the side's
	wire    string      // what came of the side, and wasn't read yet
	says    half
	hears   half
	trades  int // how many the side has begun
	secret  string
	talk    talk
	session string
}

// newPeer answers the peer of a side that is made of a plan.
func newPeer(t *testing.T, plan tunnel.Plan) *peer {
	t.Helper()
	s, e := tunnel.New(plan)
	if e != api.OK || s == nil {
		t.Fatalf("New(%+v): %d", plan, e)
	}
	return &peer{t: t, side: s, plan: plan, secret: seedOf("p")}
}

// own answers which of a pair is the peer's; the other one is the side's.
func (p *peer) own() int {
	if p.plan.Server {
		return 0
	}
	return 1
}

// gather takes what goes out of the side.
func (p *peer) gather() {
	p.wire += string(p.side.Out())
}

// cut takes n bytes that came of the side.
func (p *peer) cut(n int) string {
	p.t.Helper()
	if len(p.wire) < n {
		p.t.Fatalf("%d bytes came, where there should be %d", len(p.wire), n)
	}
	s := p.wire[:n]
	p.wire = p.wire[n:]
	return s
}

// read answers the next payload that came, and holds its packet against the
// chapter's words.
func (p *peer) read() string {
	p.t.Helper()
	p.gather()
	plain := p.hears.turn(p.cut(p.hears.unit()))
	length := int(binary.BigEndian.Uint32([]byte(plain)))
	plain += p.hears.turn(p.cut(4 + length - len(plain)))
	payload := plain[5 : len(plain)-int(plain[4])]
	if want := p.hears.plainOf(payload, drawn(p.plan.Draw, uint64(p.hears.number))); plain != want {
		p.t.Fatalf("a packet came as %q, want %q", plain, want)
	}
	if code := p.hears.code(plain); p.cut(len(code)) != code {
		p.t.Fatalf("%q came with another code", payload)
	}
	p.hears.number++
	return payload
}

// wants reads payloads, and fails the test if they are others, or if one stands
// behind them.
func (p *peer) wants(l ...string) {
	p.t.Helper()
	p.first(l...)
	p.gather()
	if p.wire != "" {
		p.t.Fatalf("%q came, where there should be none", p.read())
	}
}

// first reads payloads, and fails the test if they are others.
func (p *peer) first(l ...string) {
	p.t.Helper()
	for _, want := range l {
		if got := p.read(); got != want {
			p.t.Fatalf("%q came, want %q", got, want)
		}
	}
}

// say says payloads to the side.
func (p *peer) say(l ...string) {
	for _, s := range l {
		p.side.Feed([]byte(p.sealed(s)))
	}
}

// sealed answers a payload as it goes over the wire.
func (p *peer) sealed(s string) string {
	return p.says.seal(p.says.plainOf(s, strings.Repeat("\xEE", 20)))
}

// is fails the test unless the side is at a stage, and why it is over is so.
func (p *peer) is(stage int, why api.Errno) {
	p.t.Helper()
	if p.side.Stage() != stage || p.side.Why() != why {
		p.t.Fatalf("stage %d, why %d; want %d, %d", p.side.Stage(), p.side.Why(), stage, why)
	}
}

// ends fails the test unless the side is over with an error, of which it told.
func (p *peer) ends(e api.Errno) {
	p.t.Helper()
	p.is(tunnel.Over, e)
	p.wants(bye(int(e)))
	p.say(ignored, data("x"))
	p.side.Recv()
	p.wants()
	p.is(tunnel.Over, e)
}

// lines changes lines.
func (p *peer) lines() {
	p.t.Helper()
	p.gather()
	if got := p.cut(len(ownLine) + 2); got != ownLine+"\r\n" || p.wire != "" {
		p.t.Fatalf("%q came as a line", got)
	}
	p.talk.lines[p.own()], p.talk.lines[1-p.own()] = "SSH-2.0-peer of a test", ownLine
	p.side.Feed([]byte("SSH-2.0-peer of a test\r\n"))
}

// offers says an offer.
func (p *peer) offers() {
	p.talk.inits[p.own()] = offer(drawn("peer", uint64(p.trades)), ownLists)
	p.say(p.talk.inits[p.own()])
}

// wantsOffer reads the side's offer of its next trade.
func (p *peer) wantsOffer() {
	p.t.Helper()
	p.trades++
	_, want := secretOf(p.plan.Draw, p.trades)
	p.first(want)
	p.talk.inits[1-p.own()] = want
}

// share answers the side's share, and takes both and what is shared into the
// talk.
func (p *peer) share() string {
	secret, _ := secretOf(p.plan.Draw, p.trades)
	p.talk.shares[p.own()], p.talk.shares[1-p.own()] = shareOf(p.secret), shareOf(secret)
	p.talk.host, p.talk.shared = told(pubOf(hostSeed)), sharedOf(secret, shareOf(p.secret))
	return shareOf(secret)
}

// keyed has the first trade's hash be the session.
func (p *peer) keyed() {
	if p.session == "" {
		p.session = p.talk.sum()
	}
}

// swap goes on with a trade, when both offers are known, to its end.
func (p *peer) swap() {
	p.t.Helper()
	p.meet()
	p.say(newKeys)
	p.says.take(p.talk, p.session, p.own())
}

// meet goes on with a trade up to the peer's MsgNewKeys, which it doesn't say.
func (p *peer) meet() {
	p.t.Helper()
	share := p.share()
	if p.plan.Server {
		p.say(p.ask())
		p.keyed()
		p.wants(p.reply(), newKeys)
	} else {
		p.wants("\x1e" + text(share))
		p.keyed()
		p.say(p.reply())
		p.wants(newKeys)
	}
	p.hears.take(p.talk, p.session, 1-p.own())
}

// ask answers the peer's share, as a client says it.
func (p *peer) ask() string {
	return "\x1e" + text(p.talk.shares[0])
}

// reply answers the server's answer to the talk.
func (p *peer) reply() string {
	return "\x1f" + text(p.talk.host) + text(p.talk.shares[1]) + text(told(sigOf(hostSeed, p.talk.sum())))
}

// atLines answers the peer of a side that waits for its line.
func atLines(t *testing.T, plan tunnel.Plan) *peer {
	return newPeer(t, plan)
}

// atKeys answers the peer of a side that knows no offer of it yet.
func atKeys(t *testing.T, plan tunnel.Plan) *peer {
	t.Helper()
	p := newPeer(t, plan)
	p.lines()
	p.wantsOffer()
	p.wants()
	p.is(tunnel.Keys, api.OK)
	return p
}

// atAsk answers the peer of a side that knows its offer. What the client says
// upon that was read.
func atAsk(t *testing.T, plan tunnel.Plan) *peer {
	t.Helper()
	p := atKeys(t, plan)
	p.offers()
	share := p.share()
	if plan.Server {
		p.wants()
	} else {
		p.wants("\x1e" + text(share))
	}
	p.is(tunnel.Keys, api.OK)
	return p
}

// atAuth answers the peer of a side that has its first keys. What the client
// says upon that was read.
func atAuth(t *testing.T, plan tunnel.Plan) *peer {
	t.Helper()
	p := atKeys(t, plan)
	p.offers()
	p.swap()
	if !plan.Server {
		p.first(service)
	}
	p.wants()
	p.is(tunnel.Auth, api.OK)
	return p
}

// request answers what a client says that would be let in.
func (p *peer) request() string {
	if p.plan.Seed != "" {
		return proof(p.session, p.plan.User, p.plan.Seed)
	}
	return password(p.plan.User, p.plan.Pass)
}

// atChan answers the peer of a side that was let in, or let it in.
func atChan(t *testing.T, plan tunnel.Plan) *peer {
	t.Helper()
	p := atAuth(t, plan)
	if plan.Server {
		p.say(service)
		p.wants(accept)
		p.say(password("ann", "a password"))
		p.wants(success)
	} else {
		p.say(accept)
		p.wants(p.request())
		p.say(success)
		p.wants(wish)
	}
	p.is(tunnel.Chan, api.OK)
	return p
}

// ready answers the peer of a side whose subsystem runs.
func ready(t *testing.T, plan tunnel.Plan) *peer {
	t.Helper()
	p := atChan(t, plan)
	if plan.Server {
		p.say(wish)
		p.wants(confirm)
		p.say(netconf)
		p.wants(runs)
	} else {
		p.say(confirm)
		p.wants(netconf)
		p.say(runs)
		p.wants()
	}
	p.is(tunnel.Chan, api.OK)
	if !p.side.Ready() {
		t.Fatal("it isn't ready")
	}
	return p
}
