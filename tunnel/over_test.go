package tunnel_test

import (
	"strings"
	"testing"

	"tabulary/api"
	"tabulary/tunnel"
)

// hasAllGone fails the test unless nothing may be done or comes any more.
func (p *peer) hasAllGone() {
	p.t.Helper()
	if !p.side.Shut() || p.side.Ready() {
		p.t.Error("it is over, and isn't shut, or is ready")
	}
	if p.side.Send([]byte("x")) != api.ErrState || p.side.Leave() != api.ErrState || p.side.Rekey() != api.ErrState {
		p.t.Error("something may be done though it is over")
	}
}

// Of all stages behind Lines: a byte MsgBye, whatever stands behind it, ends it;
// nothing is said to that.
func TestBye(t *testing.T) {
	for _, at := range everyPacket {
		for _, plan := range bothPlans {
			for _, s := range []string{"\x01", bye(11), "\x01 and behind it"} {
				p := at(t, plan)
				p.say(s)
				p.is(tunnel.Over, api.ErrOver)
				p.hasAllGone()
				p.wants()
				p.say(ignored, data("x"), bye(3))
				p.is(tunnel.Over, api.ErrOver)
				p.wants()
			}
		}
	}
}

// Of all stages behind Lines: a byte MsgIgnore, whatever stands behind it, is
// nothing.
func TestIgnore(t *testing.T) {
	for _, plan := range bothPlans {
		p := atKeys(t, plan)
		p.say("\x02")
		p.offers()
		p.say(ignored)
		p.meet()
		p.say(ignored, "\x02"+text("x"))
		p.say(newKeys)
		p.says.take(p.talk, p.session, p.own())
		p.say(ignored)
		if !plan.Server {
			p.first(service)
		}
		p.wants()
		p.is(tunnel.Auth, api.OK)
		p = ready(t, plan)
		p.say("\x02", ignored)
		p.wants()
		p.is(tunnel.Chan, api.OK)
	}
}

// Amid a later trade both are heard, too.
func TestByeAndIgnoreAmidATrade(t *testing.T) {
	for _, plan := range bothPlans {
		p := ready(t, plan)
		p.side.Rekey()
		p.wantsOffer()
		p.send("waits")
		p.say(ignored)
		p.offers()
		p.say(ignored)
		p.meet()
		p.say(ignored)
		p.wants()
		p.is(tunnel.Chan, api.OK)
		p.say(bye(1))
		p.is(tunnel.Over, api.ErrOver)
		p.hasAllGone()
		p.wants()
	}
}

// P11.4: an error amid a trade: the other side is told at once, under the keys
// that are there; what waited never goes out.
func TestErrorAmidATrade(t *testing.T) {
	for _, plan := range bothPlans {
		p := ready(t, plan)
		p.side.Rekey()
		p.send("waits")
		p.wantsOffer()
		p.say("\x00")
		p.ends(api.ErrForm)

		p = ready(t, plan)
		p.offers()
		p.wantsOffer()
		p.send("waits")
		p.meet()
		p.say("\x00")
		p.ends(api.ErrForm)
	}
}

// Errors of packets: a length that may not be, a code that nobody made, a padding
// that may not be.
func TestWrongPackets(t *testing.T) {
	for _, at := range everyPacket {
		for _, plan := range bothPlans {
			for i, e := range []api.Errno{api.ErrLen, api.ErrLen, api.ErrForm, api.ErrForm, api.ErrMac} {
				p := at(t, plan)
				plain := p.says.plainOf(ignored, strings.Repeat("x", 20))
				switch i {
				case 0:
					plain = u32(4) + plain[4:]
				case 1:
					plain = u32(2349) + plain[4:]
				case 2:
					plain = plain[:4] + "\x03" + plain[5:]
				case 3:
					plain = plain[:4] + string([]byte{byte(len(plain) - 5)}) + plain[5:]
				case 4:
					if p.says.stream == nil {
						continue
					}
					p.says.mac = strings.Repeat("x", 32)
				}
				p.side.Feed([]byte(p.says.seal(plain)))
				p.ends(e)
				p.hasAllGone()
			}
		}
	}
}

// Errors of packets: any byte of a sealed packet that is turned; nothing of it is
// heard.
func TestTurnedBytes(t *testing.T) {
	for _, plan := range bothPlans {
		size := len(ready(t, plan).sealed(data("a text")))
		for i := range size {
			p := ready(t, plan)
			b := []byte(p.sealed(data("a text")))
			b[i] ^= 0x40
			p.side.Feed(b)
			for range 50 { // a greater length waits for more
				p.say(ignored)
			}
			if p.side.Stage() != tunnel.Over || p.side.Why() != api.ErrMac && p.side.Why() != api.ErrLen {
				t.Fatalf("byte %d: stage %d, why %d", i, p.side.Stage(), p.side.Why())
			}
			if len(p.side.Recv()) > 0 {
				t.Fatalf("byte %d: something is received", i)
			}
			p.wants(bye(int(p.side.Why())))
		}
	}
}

// P11.4: a packet that comes again, or ahead of its turn, isn't heard.
func TestPacketsOutOfTurn(t *testing.T) {
	for _, plan := range bothPlans {
		p := ready(t, plan)
		one, two := p.sealed(data("one")), p.sealed(data("two"))
		p.side.Feed([]byte(one + one + two))
		if got := string(p.side.Recv()); got != "one" {
			t.Fatalf("%q", got)
		}
		if p.side.Stage() != tunnel.Over {
			t.Fatal(p.side.Stage())
		}
	}
}

// P11.4: nothing is heard behind an error in the same bytes; what was heard ahead
// of it may be received, and that tells nobody of room.
func TestWhatCameAheadOfTheEnd(t *testing.T) {
	for _, plan := range bothPlans {
		for i, end := range []string{"\x00", bye(1)} {
			p := ready(t, plan)
			p.side.Feed([]byte(p.sealed(data("heard")) + p.sealed(end) + p.sealed(data("not heard")) + p.sealed(global("x", "\x01"))))
			if i == 0 {
				p.wants(bye(3))
			}
			if got := string(p.side.Recv()); got != "heard" {
				t.Fatalf("%q", got)
			}
			if len(p.side.Recv()) > 0 {
				t.Fatal("it is received again")
			}
			p.wants()
			p.hasAllGone()
		}
	}
}

// P11.4: what waited to go out when it is over goes out still, and nothing else.
func TestWhatWaitedThereAlready(t *testing.T) {
	for _, plan := range bothPlans {
		for i := range 3 {
			p := ready(t, plan)
			p.send("waits")
			switch i {
			case 0:
				p.side.Break()
				p.wants(data("waits"))
			case 1:
				p.say(bye(1))
				p.wants(data("waits"))
			case 2:
				p.say("\x00")
				p.wants(data("waits"), bye(3))
			}
			p.wants()
			p.hasAllGone()
		}
	}
}

// Break's words: of every stage; nothing goes out by it, and nothing is heard
// behind it.
func TestBreak(t *testing.T) {
	for _, at := range everyStage {
		for _, plan := range bothPlans {
			p := at(t, plan)
			p.gather()
			p.wire = ""
			p.side.Break()
			p.is(tunnel.Over, api.ErrOver)
			p.hasAllGone()
			p.pour("SSH-2.0-x\r\n", 100)
			p.say(ignored, global("x", "\x01"))
			p.wants()
			p.side.Break()
			p.wants()
			p.is(tunnel.Over, api.ErrOver)
		}
	}
}

// Why's words: the first end is the one that counts.
func TestBreakBehindAnError(t *testing.T) {
	for _, plan := range bothPlans {
		p := ready(t, plan)
		p.say("\x00")
		p.side.Break()
		p.is(tunnel.Over, api.ErrForm)
		p.wants(bye(3))
	}
}

// Rule 4: bytes that are handed in aren't changed or kept, and those that are
// answered share no memory with what is kept.
func TestMemory(t *testing.T) {
	for _, plan := range bothPlans {
		p := ready(t, plan)
		b := []byte(p.sealed(data("a text")))
		keep := string(b)
		p.side.Feed(b[:20])
		for i := range 20 {
			if b[i] != keep[i] {
				t.Fatal("Feed changed bytes")
			}
			b[i] = 0
		}
		p.side.Feed(b[20:])
		got := p.side.Recv()
		if string(got) != "a text" {
			t.Fatalf("%q", got)
		}
		p.wants(adjust(6))
		mine := []byte("mine")[:2:4]
		p.side.Rekey()
		p.send("")
		if e := p.side.Send(mine); e != api.OK || string(mine[:4]) != "mine" {
			t.Fatal(e)
		}
		copy(mine[:4], "xxxx")
		out := p.side.Out()
		p.wire += string(out)
		for i := range out {
			out[i] = 0
		}
		_ = append(out, "more"...)
		p.wantsOffer()
		p.offers()
		p.swap()
		p.wants(data("mi"))
	}
}
