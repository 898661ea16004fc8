package tunnel_test

import (
	"strings"
	"testing"

	"tabulary/api"
	"tabulary/tunnel"
)

// zero is a share with which every secret shares 0.
var zero = strings.Repeat("\x00", 32)

// P11.1: a client takes any host's key, if it knows none.
func TestAnyHost(t *testing.T) {
	plan := clientPlan
	plan.Host = ""
	p := ready(t, plan)
	p.is(tunnel.Chan, api.OK)
}

// P11.1, errors: a host's key that isn't the one that the client knows, though
// the signature is right by it.
func TestAnotherHost(t *testing.T) {
	p := atAsk(t, clientPlan)
	seed := seedOf("e")
	p.talk.host = told(pubOf(seed))
	p.say("\x1f" + text(p.talk.host) + text(p.talk.shares[1]) + text(told(sigOf(seed, p.talk.sum()))))
	p.ends(api.ErrSign)
}

// P11.1, errors: the same in a trade behind the first one.
func TestAnotherHostLater(t *testing.T) {
	p := ready(t, clientPlan)
	p.offers()
	p.wantsOffer()
	p.wants("\x1e" + text(p.share()))
	seed := seedOf("e")
	p.talk.host = told(pubOf(seed))
	p.say("\x1f" + text(p.talk.host) + text(p.talk.shares[1]) + text(told(sigOf(seed, p.talk.sum()))))
	p.ends(api.ErrSign)
}

// Errors: signatures that aren't right: of another talk, by another seed, or with
// a bit turned; a client that takes any host looks at them, too.
func TestWrongSignatures(t *testing.T) {
	anyHost := clientPlan
	anyHost.Host = ""
	for _, plan := range []tunnel.Plan{clientPlan, anyHost} {
		for _, wrong := range []func(p *peer) string{
			func(p *peer) string { return sigOf(seedOf("e"), p.talk.sum()) },
			func(p *peer) string { return sigOf(hostSeed, p.talk.sum()+"x") },
			func(p *peer) string { return strings.Repeat("\x00", 64) },
			func(p *peer) string {
				b := []byte(sigOf(hostSeed, p.talk.sum()))
				b[3] ^= 1
				return string(b)
			},
			func(p *peer) string {
				other := p.talk
				other.lines[0] = "SSH-2.0-other"
				return sigOf(hostSeed, other.sum())
			},
		} {
			p := atAsk(t, plan)
			p.say("\x1f" + text(p.talk.host) + text(p.talk.shares[1]) + text(told(wrong(p))))
			p.ends(api.ErrSign)
		}
	}
}

// Errors: a share with which nothing is shared.
func TestSharesOfNothing(t *testing.T) {
	p := atAsk(t, serverPlan)
	p.say("\x1e" + text(zero))
	p.ends(api.ErrForm)

	for _, shared := range []string{zero, p.talk.shared} {
		p = atAsk(t, clientPlan)
		p.talk.shares[1], p.talk.shared = zero, shared
		p.say(p.reply())
		p.ends(api.ErrForm)
	}
}

// Errors: of another host's key and a share of nothing, the one that is named
// first.
func TestAnotherHostAndNothing(t *testing.T) {
	p := atAsk(t, clientPlan)
	p.talk.host, p.talk.shares[1], p.talk.shared = told(pubOf(seedOf("e"))), zero, zero
	p.say(p.reply())
	p.ends(api.ErrSign)
}

// Errors: asks and replies that aren't just that.
func TestNoShares(t *testing.T) {
	p := atAsk(t, serverPlan)
	good := p.ask()
	for _, bad := range []string{good[:1], good[:len(good)-1], good + "\x00", "\x1e" + text(zero[1:]), "\x1e" + text(zero+"x")} {
		p := atAsk(t, serverPlan)
		p.say(bad)
		p.ends(api.ErrForm)
	}
	p = atAsk(t, clientPlan)
	good = p.reply()
	for _, bad := range []string{
		good[:1], good[:len(good)-1], good + "\x00",
		"\x1f" + text("x") + text(p.talk.shares[1]) + text(told(sigOf(hostSeed, p.talk.sum()))),
		"\x1f" + text(p.talk.host) + text("x") + text(told(sigOf(hostSeed, p.talk.sum()))),
		"\x1f" + text(p.talk.host) + text(p.talk.shares[1]) + text(told("x")),
		"\x1f" + text(told(pubOf(seedOf("e"))+"x")) + text(p.talk.shares[1]) + text(told(sigOf(hostSeed, p.talk.sum()))),
	} {
		p := atAsk(t, clientPlan)
		p.say(bad)
		p.ends(api.ErrForm)
	}
}

// others are messages that are no trade's, and those of a trade that may not
// come now.
func others() []string {
	return []string{
		service, accept, success, failure, password("ann", "a password"),
		wish, confirm, netconf, runs, adjust(1), data("x"), eof, closes,
		global("x", "\x01"), global("x", "\x00"), notGiven,
		"\x00", "\x03" + u32(0), "\x04", "\x07", "\x1d", "\x20", "\xff",
	}
}

// Errors: ahead of the first offer, and once it is known, anything but the
// trade's messages; these too, where they are another step's.
func TestOthersWithinTheFirstTrade(t *testing.T) {
	for _, plan := range bothPlans {
		p := atAsk(t, plan)
		step := p.ask()
		if !plan.Server {
			step = p.reply()
		}
		for _, s := range append(others(), newKeys, p.ask(), p.reply()) {
			p := atKeys(t, plan)
			p.say(s)
			p.ends(api.ErrForm)
			if s == step {
				continue
			}
			p = atAsk(t, plan)
			p.say(s)
			p.ends(api.ErrForm)
		}
		p.offers()
		p.ends(api.ErrForm)
	}
}

// Errors: the same in a later trade, once the other side's offer is known, up to
// its MsgNewKeys.
func TestOthersWithinALaterTrade(t *testing.T) {
	for _, plan := range bothPlans {
		for _, s := range others() {
			p := ready(t, plan)
			p.offers()
			p.wantsOffer()
			if !plan.Server {
				p.first("\x1e" + text(p.share()))
			}
			p.say(s)
			p.ends(api.ErrForm)

			p = ready(t, plan)
			p.offers()
			p.wantsOffer()
			p.meet()
			p.say(s)
			p.ends(api.ErrForm)
		}
	}
}

// Errors: where MsgNewKeys should come: an offer, the shares again, and something
// behind it.
func TestNoNewKeys(t *testing.T) {
	for _, plan := range bothPlans {
		for i := range 5 {
			p := atAsk(t, plan)
			if plan.Server {
				p.say(p.ask())
				p.keyed()
				p.first(p.reply(), newKeys)
			} else {
				p.keyed()
				p.say(p.reply())
				p.first(newKeys)
			}
			p.hears.take(p.talk, p.session, 1-p.own())
			p.say([]string{p.ask(), p.reply(), p.talk.inits[p.own()], newKeys + "\x00", newKeys + newKeys}[i])
			p.ends(api.ErrForm)
		}
	}
}

// Errors: a trade's messages, when none goes on, or the other side's offer isn't
// known.
func TestTradesMessagesOutsideATrade(t *testing.T) {
	for _, plan := range bothPlans {
		for _, at := range []func(*testing.T, tunnel.Plan) *peer{atAuth, atChan, ready} {
			for i := range 3 {
				p := at(t, plan)
				p.say([]string{newKeys, p.ask(), p.reply()}[i])
				p.ends(api.ErrForm)
			}
		}
		for i := range 3 {
			p := ready(t, plan)
			p.side.Rekey()
			p.wantsOffer()
			p.say([]string{newKeys, p.ask(), p.reply()}[i])
			p.ends(api.ErrForm)
		}
	}
}

// P11.2: behind a side's MsgNewKeys and ahead of the other one's, that one's
// bytes are under the old keys still, and its own under the new ones.
func TestBetweenNewKeys(t *testing.T) {
	for _, plan := range bothPlans {
		p := ready(t, plan)
		p.offers()
		p.wantsOffer()
		p.meet()
		p.say(data("x"))
		p.ends(api.ErrForm)
	}
}
