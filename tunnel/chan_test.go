package tunnel_test

import (
	"strings"
	"testing"

	"tabulary/api"
	"tabulary/tunnel"
)

// P11.2: what is sent and received once the subsystem runs.
func TestSendAndReceive(t *testing.T) {
	for _, plan := range bothPlans {
		p := ready(t, plan)
		long := strings.Repeat("0123456789", 60)
		p.send("one")
		p.send("")
		p.send(long)
		p.wants(data("one"), data(long[:512]), data(long[512:]))
		p.say(data("some"), data("thing"))
		p.wants()
		if got := string(p.side.Recv()); got != "something" {
			t.Fatalf("%q", got)
		}
		p.wants(adjust(9))
		if len(p.side.Recv()) > 0 {
			t.Fatal("it is received again")
		}
		p.wants()
	}
}

// P11.2: no more goes out than the window; the rest waits for it to be widened.
func TestWindow(t *testing.T) {
	for _, plan := range bothPlans {
		p := ready(t, plan)
		long := strings.Repeat("0123456789", 900)
		p.send(long)
		want := make([]string, 0, 8)
		for i := range 8 {
			want = append(want, data(long[i*512:][:512]))
		}
		p.wants(want...)
		p.say(adjust(600))
		p.wants(data(long[4096:4608]), data(long[4608:4696]))
		p.is(tunnel.Chan, api.OK)
	}
}

// Send's and Leave's words: the channel's own errors.
func TestChannelsErrors(t *testing.T) {
	for _, plan := range bothPlans {
		p := atChan(t, plan)
		if e := p.side.Send([]byte("x")); e != api.ErrState {
			t.Errorf("Send ahead of the channel: %d", e)
		}
		if e := p.side.Leave(); e != api.ErrState {
			t.Errorf("Leave ahead of the channel: %d", e)
		}
		p.wants()
		p = ready(t, plan)
		if e := p.side.Leave(); e != api.OK {
			t.Errorf("Leave: %d", e)
		}
		p.wants(eof, closes)
		if p.side.Shut() {
			t.Error("it is shut ahead of the other side's close")
		}
		if e := p.side.Leave(); e != api.ErrState {
			t.Errorf("Leave again: %d", e)
		}
		if e := p.side.Send([]byte("x")); e != api.ErrState {
			t.Errorf("Send behind Leave: %d", e)
		}
		p.wants()
		p.say(data("heard still"), closes)
		if got := string(p.side.Recv()); got != "heard still" || !p.side.Shut() || !p.side.Ready() {
			t.Errorf("%q", got)
		}
		p.wants()
		p.is(tunnel.Chan, api.OK)
	}
}

// Shut's words: the channel may be Shut, and the side at Chan.
func TestShutByTheOtherSide(t *testing.T) {
	for _, plan := range bothPlans {
		p := ready(t, plan)
		p.say(eof)
		if p.side.Shut() {
			t.Error("it is shut behind an end")
		}
		p.say(closes)
		p.wants(eof, closes)
		if !p.side.Shut() {
			t.Error("it isn't shut")
		}
		p.is(tunnel.Chan, api.OK)
		// The connection goes on: keys may be traded, wishes are answered.
		p.say(global("x", "\x01"))
		p.wants(notGiven)
		p.offers()
		p.wantsOffer()
		p.swap()
		p.wants()
		p.is(tunnel.Chan, api.OK)
	}
	p := atChan(t, clientPlan)
	p.say("\x5c" + u32(0) + u32(1) + text("") + text(""))
	if !p.side.Shut() || p.side.Ready() {
		t.Error("a client that is refused a channel isn't shut")
	}
	p.wants()
	p.is(tunnel.Chan, api.OK)
}

// At Chan: wishes that aren't the channel's are answered, if that is asked for;
// what stands behind the flag isn't looked at.
func TestOtherWishes(t *testing.T) {
	for _, at := range []func(*testing.T, tunnel.Plan) *peer{atChan, ready} {
		for _, plan := range bothPlans {
			p := at(t, plan)
			for _, flag := range []string{"\x01", "\x80", "\xff", "\x01 and behind it"} {
				p.say(global("keepalive@openssh.com", flag))
				p.wants(notGiven)
			}
			p.say(global("", "\x01"), global(strings.Repeat("x", 2000), "\x01"))
			p.wants(notGiven, notGiven)
			p.say(global("no-more-sessions@openssh.com", "\x00"), global("", "\x00 and behind it"))
			p.wants()
			p.is(tunnel.Chan, api.OK)
		}
	}
}

// Errors: wishes that are cut off.
func TestOtherWishesThatAreCutOff(t *testing.T) {
	for _, plan := range bothPlans {
		for _, s := range []string{"\x50", "\x50" + text("x"), "\x50" + text("xyz")[:6], "\x50" + u32(100000) + "xx"} {
			p := ready(t, plan)
			p.say(s)
			p.ends(api.ErrForm)
		}
	}
}

// Errors: what the channel doesn't hear.
func TestWhatTheChannelDoesntHear(t *testing.T) {
	for _, plan := range bothPlans {
		for _, s := range []string{
			service, accept, success, failure, password("ann", "a password"), notGiven,
			"\x51", "\x03" + u32(0), "\x04", "\x00", "\xff", confirm, data("x") + "\x00", "\x5e" + u32(1) + text("x"),
			"\x5e" + u32(0) + text(strings.Repeat("x", 513)), "\x5d" + u32(0) + u32(1<<31-1),
		} {
			p := ready(t, plan)
			p.say(s)
			p.ends(api.ErrForm)
		}
	}
}

// P11.2: keys are traded anew once RekeyAfter packets were written under them,
// looked at behind each call.
func TestKeysAreTradedAnew(t *testing.T) {
	for _, plan := range bothPlans {
		for i := range 4 {
			p := ready(t, plan)
			// Packets since the first keys: none was written ahead of them.
			n := int(p.hears.number) - 3
			for ; n < api.RekeyAfter-1; n++ {
				p.send("x")
				p.wants(data("x"))
			}
			switch i {
			case 0:
				p.send("y")
				p.first(data("y"))
			case 1:
				p.say(data("x"))
				p.wants()
				p.side.Recv()
				p.first(adjust(1))
			case 2:
				p.say(global("x", "\x01"))
				p.first(notGiven)
			case 3:
				p.side.Leave()
				p.first(eof, closes)
			}
			p.wantsOffer()
			p.wants()
			p.offers()
			p.swap()
			p.wants()
			// From then on packets are counted anew.
			for range api.RekeyAfter - 1 {
				p.say(global("x", "\x01"))
				p.wants(notGiven)
			}
			p.say(global("x", "\x01"))
			p.first(notGiven)
			p.wantsOffer()
			p.wants()
		}
	}
}

// P11.2: a side that reads alone writes nothing, and trades nothing by itself.
func TestWhatIsReadDoesntCount(t *testing.T) {
	for _, plan := range bothPlans {
		p := ready(t, plan)
		for range 500 {
			p.say(ignored, global("x", "\x00"), data("x"))
		}
		p.wants()
		p.is(tunnel.Chan, api.OK)
	}
}

// P11.2: it is looked at behind a call, not amid it: what one call writes goes
// out whole ahead of the offer.
func TestLookedAtBehindEachCall(t *testing.T) {
	for _, plan := range bothPlans {
		p := ready(t, plan)
		p.say(adjust(1 << 20))
		p.send(strings.Repeat("x", 300*512))
		for range 300 {
			p.first(data(strings.Repeat("x", 512)))
		}
		p.wantsOffer()
		p.wants()

		p = ready(t, plan)
		var many strings.Builder
		for range 300 {
			many.WriteString(p.sealed(global("x", "\x01")))
		}
		p.side.Feed([]byte(many.String()))
		for range 300 {
			p.first(notGiven)
		}
		p.wantsOffer()
		p.wants()
	}
}

// P11.2: what waited for a trade's end counts under the new keys, so that another
// trade may follow at once.
func TestTradesInARow(t *testing.T) {
	for _, plan := range bothPlans {
		p := ready(t, plan)
		p.side.Rekey()
		p.wantsOffer()
		for range api.RekeyAfter {
			p.say(global("x", "\x01"))
		}
		p.wants()
		p.offers()
		p.swap()
		for range api.RekeyAfter {
			p.first(notGiven)
		}
		p.wantsOffer()
		p.wants()
		p.is(tunnel.Chan, api.OK)
	}
}

// Ahead of Chan nothing is traded anew, however much was written.
func TestNothingIsTradedAnewAheadOfChan(t *testing.T) {
	plan := serverPlan
	plan.Tries = 1000
	p := atAuth(t, plan)
	for range 300 {
		p.say(service)
		p.wants(accept)
	}
	// But then it is, behind the call by which it comes to be at Chan.
	p.say(password("ann", "a password"))
	p.first(success)
	p.wantsOffer()
	p.wants()
	p.is(tunnel.Chan, api.OK)
}
