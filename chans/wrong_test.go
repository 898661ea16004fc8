package chans_test

import (
	"bytes"
	"math"
	"math/rand"
	"testing"

	"tabulary/api"
	"tabulary/chans"
)

// P10.1: a nil *Chan.
func TestNil(t *testing.T) {
	var c *chans.Chan
	stands(t, c, 0, false, 0)
	says(t, c)
	receives(t, c, "")
	is(t, c.Begin(), api.ErrState)
	is(t, c.Send([]byte("x")), api.ErrState)
	is(t, c.Send(nil), api.ErrState)
	is(t, c.Close(), api.ErrState)
	errs(t, c, "", "x", wish("session", 0, 4096, 512), confirm(0, 0, 4096, 512), refuse(0), adjust(0, 1), data(0, "x"), eof(0), bye(0), netconf(0), success(0), failure(0))
}

// P10.1: a wish and its answer that are cut off anywhere, or go on, say nothing.
func TestCutOrGoingOnAtFirst(t *testing.T) {
	for _, p := range []string{wish("session", 0, 4096, 512), wish("x", 1, 2, 0), wish("", 1, 2, 3)} {
		c := chans.New(true)
		wrong(t, c, p)
		stands(t, c, chans.None, false, 0)
		c = opened(t, true, 0, 1, 1)
		wrong(t, c, p)
		takes(t, c, p)
	}
	c := opening(t)
	wrong(t, c, confirm(0, 0, 4096, 512))
	takes(t, c, confirm(0, 0, 4096, 512))
	c = chans.New(true)
	errs(t, c, wish(long(16385), 0, 4096, 512), "\x5a\xff\xff\xff\xffsession")
}

// P10.1: messages that are cut off anywhere, or go on, say nothing.
func TestCutOrGoingOn(t *testing.T) {
	both(t, func(t *testing.T, server bool) {
		for _, p := range []string{adjust(0, 5), data(0, "abc"), data(0, ""), eof(0), bye(0)} {
			c := running(t, server, 0, 1, 1)
			wrong(t, c, p)
			takes(t, c, p)
		}
	})
	for _, p := range []string{success(0), failure(0)} {
		c := opened(t, false, 0, 1, 1)
		wrong(t, c, p)
		takes(t, c, p)
	}
}

// wrong hands a message to an end that would hear it, cut off anywhere and with
// more behind it.
func wrong(t *testing.T, c *chans.Chan, p string) {
	t.Helper()
	for n := range p {
		errs(t, c, p[:n])
	}
	errs(t, c, p+"\x00", p+"x", p+text(""), p+p)
}

// P10.1: there is but the one channel, of number 0.
func TestOtherNumbers(t *testing.T) {
	both(t, func(t *testing.T, server bool) {
		open, runs := opened(t, server, 1, 4096, 512), running(t, server, 1, 4096, 512)
		for _, n := range []uint32{1, 2, 256, 1 << 24, 1 << 31, math.MaxUint32} {
			for _, c := range []*chans.Chan{open, runs} {
				errs(t, c, adjust(n, 1), data(n, "x"), eof(n), bye(n), netconf(n), request(n, "x", "\x01", ""), success(n), failure(n))
			}
		}
	})
}

// P10.1: a client hears no wishes, whatever it is.
func TestWishToAClient(t *testing.T) {
	for _, c := range []*chans.Chan{chans.New(false), opening(t), opened(t, false, 0, 1, 1), running(t, false, 0, 1, 1)} {
		errs(t, c, wish("session", 0, 4096, 512), wish("x", 0, 4096, 512), wish("session", 0, 4096, 0))
		if c.State() == chans.Open {
			takes(t, c, bye(0))
			says(t, c, eof(0), bye(0))
			errs(t, c, wish("session", 0, 4096, 512))
		}
	}
}

// P10.1: a server hears no answers to wishes.
func TestAnswersToWishesToAServer(t *testing.T) {
	for _, c := range []*chans.Chan{chans.New(true), opened(t, true, 0, 1, 1), running(t, true, 0, 1, 1)} {
		errs(t, c, confirm(0, 0, 4096, 512), refuse(0), "\x5c\x00\x00\x00\x00")
	}
}

// P10.1: no other byte begins a message.
func TestOtherMessages(t *testing.T) {
	ends := []*chans.Chan{
		chans.New(true), chans.New(false), opening(t),
		opened(t, true, 0, 1, 1), running(t, true, 0, 1, 1), opened(t, false, 0, 1, 1), running(t, false, 0, 1, 1),
	}
	for kind := range 256 {
		if kind >= 90 && kind <= 94 || kind >= 96 && kind <= 100 {
			continue
		}
		for _, c := range ends {
			for _, p := range []string{wish("session", 0, 1, 1), confirm(0, 0, 1, 1), refuse(0), adjust(0, 1), data(0, "x"), eof(0), netconf(0), request(0, "x", "\x01", "")} {
				errs(t, c, string([]byte{byte(kind)})+p[1:])
			}
			errs(t, c, string([]byte{byte(kind)}))
		}
	}
	for _, c := range ends {
		errs(t, c, "")
		is(t, c.Take(nil), api.ErrForm)
		errs(t, c, "\x5f"+u32(0)+u32(1)+text("x")) // data of another kind (RFC 4254, 5.2)
	}
}

// P0: any bytes; nothing that is handed in is changed.
func TestAnyBytes(t *testing.T) {
	rnd := rand.New(rand.NewSource(1))
	right := []string{
		wish("session", 0, 4096, 512), confirm(0, 0, 4096, 512), refuse(0), adjust(0, 9), data(0, "abc"),
		eof(0), bye(0), netconf(0), request(0, "x", "\x01", ""), success(0), failure(0),
	}
	for range 3000 {
		c := chans.New(rnd.Intn(2) == 0)
		c.Begin()
		for range 12 {
			p := []byte(right[rnd.Intn(len(right))])
			for range rnd.Intn(3) {
				p[rnd.Intn(len(p))] = byte(rnd.Intn(256))
			}
			p = p[:len(p)-rnd.Intn(len(p)+1)*(rnd.Intn(3)/2)]
			keep := bytes.Clone(p)
			if e := c.Take(p); e != api.OK && e != api.ErrForm || !bytes.Equal(p, keep) {
				t.Fatalf("Take(%q): %d, %q", keep, e, p)
			}
			c.Send(p)
			c.Recv()
		}
		if c.Pending() < 0 || c.State() < chans.None || c.State() > chans.Shut {
			t.Fatal(c.Pending(), c.State())
		}
	}
}
