package chans_test

import (
	"testing"

	"tabulary/api"
	"tabulary/chans"
)

// P10.1: who closes tells its end, once, and what waits is lost.
func TestClose(t *testing.T) {
	both(t, func(t *testing.T, server bool) {
		c := running(t, server, 6, 3, 2)
		is(t, c.Send([]byte("abcdef")), api.OK)
		stands(t, c, chans.Open, true, 3)
		is(t, c.Close(), api.OK)
		says(t, c, data(6, "ab"), data(6, "c"), eof(6), bye(6))
		stands(t, c, chans.Open, true, 0)
		is(t, c.Close(), api.ErrState)
		is(t, c.Send([]byte("x")), api.ErrState)
		is(t, c.Send(nil), api.ErrState)
		takes(t, c, adjust(0, 100))
		says(t, c)
		stands(t, c, chans.Open, true, 0)
	})
}

// P10.1: a channel may be closed ahead of the subsystem.
func TestCloseUnready(t *testing.T) {
	both(t, func(t *testing.T, server bool) {
		c := opened(t, server, 6, 3, 2)
		is(t, c.Close(), api.OK)
		says(t, c, eof(6), bye(6))
		takes(t, c, bye(0))
		says(t, c)
		stands(t, c, chans.Shut, false, 0)
	})
}

// P10.1: who closed hears the other side as ever, till that one closes; but it
// makes no room any more.
func TestBehindClose(t *testing.T) {
	both(t, func(t *testing.T, server bool) {
		c := running(t, server, 6, 3, 2)
		is(t, c.Close(), api.OK)
		says(t, c, eof(6), bye(6))
		takes(t, c, data(0, long(512)))
		receives(t, c, long(512))
		for range 7 {
			takes(t, c, data(0, long(512)))
			receives(t, c, long(512))
		}
		errs(t, c, data(0, "x"))
		takes(t, c, data(0, ""), request(0, "x", "\x01", ""))
		says(t, c, failure(6))
		takes(t, c, eof(0))
		errs(t, c, eof(0), data(0, ""))
		takes(t, c, bye(0))
		stands(t, c, chans.Shut, true, 0)
		says(t, c)
	})
}

// P10.1: upon the other side's close this one closes, too, and is Shut; what
// waits is lost, but what came isn't.
func TestOtherSideCloses(t *testing.T) {
	both(t, func(t *testing.T, server bool) {
		c := running(t, server, 6, 3, 2)
		is(t, c.Send([]byte("abcdef")), api.OK)
		takes(t, c, data(0, "came"), bye(0))
		stands(t, c, chans.Shut, true, 0)
		says(t, c, data(6, "ab"), data(6, "c"), eof(6), bye(6))
		receives(t, c, "came")
		says(t, c)
		isShut(t, c)
	})
}

// P10.1: bytes that came ahead of this side's close are received behind it.
func TestReceiveBehindClose(t *testing.T) {
	both(t, func(t *testing.T, server bool) {
		c := running(t, server, 6, 3, 2)
		takes(t, c, data(0, "came"))
		is(t, c.Close(), api.OK)
		says(t, c, eof(6), bye(6))
		takes(t, c, data(0, " later"))
		receives(t, c, "came later")
		says(t, c)
		takes(t, c, data(0, "last"), bye(0))
		receives(t, c, "last")
		says(t, c)
		isShut(t, c)
	})
}

// isShut fails the test unless nothing can be done or said any more, but that a
// server refuses.
func isShut(t *testing.T, c *chans.Chan) {
	t.Helper()
	is(t, c.Begin(), api.ErrState)
	is(t, c.Send([]byte("x")), api.ErrState)
	is(t, c.Send(nil), api.ErrState)
	is(t, c.Close(), api.ErrState)
	errs(t, c, confirm(0, 0, 4096, 512), refuse(0), adjust(0, 1), adjust(0, 0), data(0, "x"), data(0, ""),
		eof(0), bye(0), netconf(0), request(0, "x", "\x01", ""), success(0), failure(0))
	receives(t, c, "")
	says(t, c)
}

// P10.1: both sides close at once.
func TestBothClose(t *testing.T) {
	a, b := running(t, false, 0, 4096, 512), running(t, true, 0, 4096, 512)
	is(t, a.Close(), api.OK)
	is(t, b.Close(), api.OK)
	says(t, a, eof(0), bye(0))
	says(t, b, eof(0), bye(0))
	takes(t, a, eof(0), bye(0))
	takes(t, b, eof(0), bye(0))
	stands(t, a, chans.Shut, true, 0)
	stands(t, b, chans.Shut, true, 0)
	isShut(t, a)
	isShut(t, b)
}
