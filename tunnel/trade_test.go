package tunnel_test

import (
	"testing"

	"tabulary/api"
	"tabulary/tunnel"
)

// P11.1: the first keys: offers, shares and the signature are those of the
// words, to the byte; both directions are under the new keys from then on.
func TestFirstKeys(t *testing.T) {
	for _, draw := range []string{"", "d", "another seed", seedOf("d") + seedOf("e")} {
		for _, plan := range bothPlans {
			plan.Draw = draw
			p := ready(t, plan)
			p.say(data("heard under the new keys"))
			if got := string(p.side.Recv()); got != "heard under the new keys" {
				t.Fatalf("%q", got)
			}
			p.wants(adjust(24))
		}
	}
}

// P11.1: new keys behind MsgNewKeys are those of the new talk and of the first
// one's hash, whoever begins the trade; the trades' numbers go on.
func TestNewKeys(t *testing.T) {
	for _, plan := range bothPlans {
		p := ready(t, plan)
		for i := range 6 {
			if i%2 == 0 {
				if e := p.side.Rekey(); e != api.OK {
					t.Fatal(e)
				}
				p.wantsOffer()
				p.wants()
				p.offers()
			} else {
				p.offers()
				p.wantsOffer()
			}
			p.secret = seedOf(string(rune('0' + i)))
			p.swap()
			p.wants()
			p.is(tunnel.Chan, api.OK)
			p.say(data("x"))
			if got := string(p.side.Recv()); got != "x" {
				t.Fatalf("%q", got)
			}
			p.wants(adjust(1))
		}
		if !p.side.Ready() {
			t.Fatal("it isn't ready any more")
		}
	}
}

// P11.2: offers that cross are of one trade.
func TestOffersThatCross(t *testing.T) {
	for _, plan := range bothPlans {
		p := ready(t, plan)
		p.talk.inits[p.own()] = offer(seedOf("o"), ownLists)
		under := p.sealed(p.talk.inits[p.own()])
		if e := p.side.Rekey(); e != api.OK {
			t.Fatal(e)
		}
		p.side.Feed([]byte(under))
		p.wantsOffer()
		p.swap()
		p.wants()
		p.is(tunnel.Chan, api.OK)
	}
}

// P11.1: keys are traded anew at Auth, too, if the other side offers it; what is
// said of being let in goes on behind it.
func TestNewKeysAtAuth(t *testing.T) {
	for _, plan := range append(bothPlans, keyPlan) {
		p := atAuth(t, plan)
		p.offers()
		p.wantsOffer()
		p.swap()
		p.wants()
		p.is(tunnel.Auth, api.OK)
		if plan.Server {
			p.say(service)
			p.wants(accept)
			p.offers()
			p.wantsOffer()
			p.swap()
			p.say(proof(p.session, "bob", userSeed))
			p.wants(success)
		} else {
			p.say(accept)
			p.wants(p.request())
			p.offers()
			p.wantsOffer()
			p.swap()
			p.say(success)
			p.wants(wish)
		}
		p.is(tunnel.Chan, api.OK)
	}
}

// P11.2: what a side would say while a trade goes on waits for its end, and goes
// out then, in order: its channel's messages, and answers to other wishes.
func TestWhatWaits(t *testing.T) {
	for _, plan := range bothPlans {
		p := ready(t, plan)
		if e := p.side.Rekey(); e != api.OK {
			t.Fatal(e)
		}
		p.wantsOffer()
		// Ahead of the peer's offer it is heard as ever.
		p.say(global("a", "\x01"), data("one"), ignored)
		if got := string(p.side.Recv()); got != "one" {
			t.Fatalf("%q", got)
		}
		p.send("first")
		p.say(global("b", "\x01"))
		p.wants()
		p.offers()
		p.send("second")
		p.meet()
		p.send("third")
		p.wants()
		p.say(newKeys)
		p.says.take(p.talk, p.session, p.own())
		p.wants(notGiven, adjust(3), data("first"), notGiven, data("second"), data("third"))
		p.send("fourth")
		p.wants(data("fourth"))
		p.is(tunnel.Chan, api.OK)
	}
}

// send has the side send a text.
func (p *peer) send(s string) {
	p.t.Helper()
	if e := p.side.Send([]byte(s)); e != api.OK {
		p.t.Fatalf("Send: %d", e)
	}
}

// P11.2: what comes of leaving while a trade goes on waits, too.
func TestLeavingWaits(t *testing.T) {
	for _, plan := range bothPlans {
		p := ready(t, plan)
		p.offers()
		p.wantsOffer()
		p.send("last")
		if e := p.side.Leave(); e != api.OK {
			t.Fatal(e)
		}
		p.meet()
		p.wants()
		p.say(newKeys)
		p.says.take(p.talk, p.session, p.own())
		p.wants(data("last"), eof, closes)
		p.say(closes)
		if !p.side.Shut() {
			t.Fatal("it isn't shut")
		}
		p.is(tunnel.Chan, api.OK)
	}
}

// P11.2: a side that trades doesn't begin again, neither when it is told to.
func TestRekeyWhileTrading(t *testing.T) {
	for _, plan := range bothPlans {
		p := ready(t, plan)
		if e := p.side.Rekey(); e != api.OK {
			t.Fatal(e)
		}
		again := func() {
			if e := p.side.Rekey(); e != api.ErrState {
				t.Fatalf("Rekey amid a trade: %d", e)
			}
		}
		again()
		p.wantsOffer()
		again()
		p.offers()
		again()
		p.meet()
		again()
		p.wants()
		p.say(newKeys)
		p.says.take(p.talk, p.session, p.own())
		p.wants()
		if e := p.side.Rekey(); e != api.OK {
			t.Fatalf("Rekey behind a trade: %d", e)
		}
	}
}

// Rekey's words: ErrState, if it isn't at Chan; nothing goes out then.
func TestRekeyAheadOfChan(t *testing.T) {
	for _, at := range everyStage[:4] {
		for _, plan := range bothPlans {
			p := at(t, plan)
			p.gather()
			p.wire = ""
			if e := p.side.Rekey(); e != api.ErrState {
				t.Errorf("stage %d: %d", p.side.Stage(), e)
			}
			p.wants()
		}
	}
	for _, plan := range bothPlans {
		p := atChan(t, plan)
		if e := p.side.Rekey(); e != api.OK {
			t.Errorf("at Chan: %d", e)
		}
		p.wantsOffer()
		p.wants()
	}
}

// P11.1: an offer of more than a side's own: it comes to the client's first one
// that the server has.
func TestOtherOffers(t *testing.T) {
	more := ownLists
	for i := range more {
		more[i] = "x@y," + more[i] + ",z"
	}
	for _, plan := range bothPlans {
		p := atKeys(t, plan)
		p.talk.inits[p.own()] = offer(seedOf("o"), more)
		p.say(p.talk.inits[p.own()])
		p.swap()
		p.is(tunnel.Auth, api.OK)
	}
}

// Errors: offers that don't agree; whose lists are the client's counts.
func TestOffersThatDontAgree(t *testing.T) {
	for _, plan := range bothPlans {
		for i := range ownLists {
			for _, other := range []string{"", "x", "x,y"} {
				lists := ownLists
				lists[i] = other
				p := atKeys(t, plan)
				p.say(offer(seedOf("o"), lists))
				p.ends(api.ErrAgree)
			}
		}
	}
}

// Errors: an offer that doesn't agree, behind the first keys: the side's own goes
// out first.
func TestLaterOfferThatDoesntAgree(t *testing.T) {
	for _, at := range []func(*testing.T, tunnel.Plan) *peer{atAuth, atChan, ready} {
		for _, plan := range bothPlans {
			p := at(t, plan)
			lists := ownLists
			lists[2] = "aes256-ctr"
			p.say(offer(seedOf("o"), lists))
			p.wantsOffer()
			p.ends(api.ErrAgree)
		}
	}
}

// Errors: bytes that begin like an offer and are none; no offer goes out.
func TestNoOffers(t *testing.T) {
	good := offer(seedOf("o"), ownLists)
	for _, at := range []func(*testing.T, tunnel.Plan) *peer{atKeys, atAuth, ready} {
		for _, plan := range bothPlans {
			for _, bad := range []string{good[:1], good[:17], good[:len(good)-1], good + "\x00"} {
				p := at(t, plan)
				p.say(bad)
				p.ends(api.ErrForm)
			}
		}
	}
}
