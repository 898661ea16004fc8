package chans_test

import (
	"math"
	"testing"

	"tabulary/api"
	"tabulary/chans"
)

// P10.1: the numbers of messages and states.
func TestNumbers(t *testing.T) {
	for _, c := range [][2]int{
		{chans.MsgOpen, 90}, {chans.MsgConfirm, 91}, {chans.MsgRefuse, 92}, {chans.MsgAdjust, 93},
		{chans.MsgData, 94}, {chans.MsgEof, 96}, {chans.MsgClose, 97}, {chans.MsgRequest, 98},
		{chans.MsgSuccess, 99}, {chans.MsgFailure, 100},
		{chans.None, 0}, {chans.Opening, 1}, {chans.Open, 2}, {chans.Shut, 3},
	} {
		if c[0] != c[1] {
			t.Errorf("%d, want %d", c[0], c[1])
		}
	}
}

// P10.1: an end is None at first, and nothing can be done with it but a client's
// Begin.
func TestNone(t *testing.T) {
	both(t, func(t *testing.T, server bool) {
		c := chans.New(server)
		stands(t, c, chans.None, false, 0)
		says(t, c)
		receives(t, c, "")
		is(t, c.Send([]byte("x")), api.ErrState)
		is(t, c.Send(nil), api.ErrState)
		is(t, c.Close(), api.ErrState)
		errs(t, c, confirm(0, 0, 4096, 512), refuse(0), adjust(0, 1), data(0, "x"), eof(0), bye(0), netconf(0), success(0), failure(0))
	})
}

// P10.1: what a client and a server say till the subsystem runs, byte by byte.
func TestInFull(t *testing.T) {
	a, b := chans.New(false), chans.New(true)
	is(t, a.Begin(), api.OK)
	stands(t, a, chans.Opening, false, 0)
	hello := "\x5a\x00\x00\x00\x07session\x00\x00\x00\x00\x00\x00\x10\x00\x00\x00\x02\x00"
	says(t, a, hello)
	takes(t, b, hello)
	stands(t, b, chans.Open, false, 0)
	yes := "\x5b\x00\x00\x00\x00\x00\x00\x00\x00\x00\x00\x10\x00\x00\x00\x02\x00"
	says(t, b, yes)
	takes(t, a, yes)
	stands(t, a, chans.Open, false, 0)
	ask := "\x62\x00\x00\x00\x00\x00\x00\x00\x09subsystem\x01\x00\x00\x00\x07netconf"
	says(t, a, ask)
	takes(t, b, ask)
	stands(t, b, chans.Open, true, 0)
	says(t, b, "\x63\x00\x00\x00\x00")
	takes(t, a, "\x63\x00\x00\x00\x00")
	stands(t, a, chans.Open, true, 0)
	is(t, a.Send([]byte("hi")), api.OK)
	says(t, a, "\x5e\x00\x00\x00\x00\x00\x00\x00\x02hi")
	takes(t, b, "\x5e\x00\x00\x00\x00\x00\x00\x00\x02hi")
	receives(t, b, "hi")
	says(t, b, "\x5d\x00\x00\x00\x00\x00\x00\x00\x02")
	is(t, b.Close(), api.OK)
	says(t, b, "\x60\x00\x00\x00\x00", "\x61\x00\x00\x00\x00")
	takes(t, a, "\x60\x00\x00\x00\x00", "\x61\x00\x00\x00\x00")
	says(t, a, "\x60\x00\x00\x00\x00", "\x61\x00\x00\x00\x00")
	stands(t, a, chans.Shut, true, 0)
	takes(t, b, "\x60\x00\x00\x00\x00", "\x61\x00\x00\x00\x00")
	says(t, b)
	stands(t, b, chans.Shut, true, 0)
}

// P10.1: only a client begins, and only once.
func TestBegin(t *testing.T) {
	is(t, chans.New(true).Begin(), api.ErrState)
	c := opening(t)
	is(t, c.Begin(), api.ErrState)
	takes(t, c, confirm(0, 0, 1, 1))
	is(t, c.Begin(), api.ErrState)
	takes(t, c, bye(0))
	is(t, c.Begin(), api.ErrState)
	c = opening(t)
	takes(t, c, refuse(0))
	is(t, c.Begin(), api.ErrState)
	says(t, c)
	s := running(t, true, 0, 4096, 512)
	is(t, s.Begin(), api.ErrState)
	stands(t, s, chans.Open, true, 0)
	says(t, s)
}

// P10.1: while a client's end is Opening nothing else can be done or said.
func TestOpening(t *testing.T) {
	c := opening(t)
	is(t, c.Send([]byte("x")), api.ErrState)
	is(t, c.Close(), api.ErrState)
	receives(t, c, "")
	errs(t, c, wish("session", 0, 4096, 512), adjust(0, 1), data(0, ""), eof(0), bye(0), netconf(0), success(0), failure(0))
	stands(t, c, chans.Opening, false, 0)
	takes(t, c, confirm(0, 0, 4096, 512))
	stands(t, c, chans.Open, false, 0)
}

// P10.1: any number of the other end is the one to which this one speaks.
func TestNumbersOfEnds(t *testing.T) {
	both(t, func(t *testing.T, server bool) {
		for _, n := range []uint32{0, 1, 7, 1 << 31, math.MaxUint32, 0x01020304} {
			c := running(t, server, n, 5, 3)
			is(t, c.Send([]byte("abcdefgh")), api.OK)
			says(t, c, data(n, "abc"), data(n, "de"))
			takes(t, c, data(0, "xy"))
			receives(t, c, "xy")
			says(t, c, adjust(n, 2))
			takes(t, c, request(0, "x", "\x01", ""))
			says(t, c, failure(n))
			is(t, c.Close(), api.OK)
			says(t, c, eof(n), bye(n))
		}
	})
}

// P10.1: a wish of another name, or by which no byte could be sent, is refused,
// and so is a second one; the first one that may be opens the channel.
func TestRefused(t *testing.T) {
	c := chans.New(true)
	for _, name := range []string{"", "sessio", "session2", "Session", "session\x00", "x11", "direct-tcpip", long(16384)} {
		takes(t, c, wish(name, 9, 4096, 512))
		says(t, c, refuse(9))
		stands(t, c, chans.None, false, 0)
	}
	takes(t, c, wish("session", 5, 4096, 0), wish("session", math.MaxUint32, 0, 0), wish("x", 1, 1, 0))
	says(t, c, refuse(5), refuse(math.MaxUint32), refuse(1))
	stands(t, c, chans.None, false, 0)
	takes(t, c, wish("session", 6, 10, 4), wish("session", 7, 20, 5), wish("x", 8, 20, 5))
	says(t, c, confirm(6, 0, 4096, 512), refuse(7), refuse(8))
	stands(t, c, chans.Open, false, 0)
	takes(t, c, netconf(0))
	is(t, c.Send([]byte("abcdefghijklmnop")), api.OK)
	says(t, c, success(6), data(6, "abcd"), data(6, "efgh"), data(6, "ij")) // by the first wish's bounds
	takes(t, c, bye(0), wish("session", 7, 20, 5))
	says(t, c, eof(6), bye(6), refuse(7))
	stands(t, c, chans.Shut, true, 0)
}

// P10.1: a refusal, byte by byte.
func TestRefusalInFull(t *testing.T) {
	c := chans.New(true)
	takes(t, c, wish("x", 0x01020304, 4096, 512))
	says(t, c, "\x5c\x01\x02\x03\x04\x00\x00\x00\x03\x00\x00\x00\x00\x00\x00\x00\x00")
}

// P10.1: a client hears one answer to its wish, which is for its own number and
// lets it send.
func TestConfirm(t *testing.T) {
	c := opening(t)
	errs(t, c, confirm(1, 0, 4096, 512), confirm(math.MaxUint32, 0, 4096, 512), confirm(0, 0, 4096, 0), confirm(0, 5, 0, 0))
	takes(t, c, confirm(0, 3, 0, 1))
	says(t, c, netconf(3))
	errs(t, c, confirm(0, 3, 0, 1), refuse(0), refuse(3))
	takes(t, c, bye(0))
	says(t, c, eof(3), bye(3))
	errs(t, c, confirm(0, 3, 0, 1), refuse(0), refuse(3))
}

// P10.1: a refused client is Shut; of the refusal only that it has a number is
// looked at.
func TestHeardRefusal(t *testing.T) {
	for _, p := range []string{refuse(0), refuse(1), refuse(math.MaxUint32), "\x5c\x00\x00\x00\x00", "\x5c\x09\x09\x09\x09\x00", refuse(0) + "x", "\x5c\xff\xff\xff\xff\xff\xff\xff\xff\xff\xff\xff\xff"} {
		c := opening(t)
		errs(t, c, "\x5c", "\x5c\x00", "\x5c\x00\x00\x00")
		takes(t, c, p)
		stands(t, c, chans.Shut, false, 0)
		says(t, c)
		is(t, c.Send(nil), api.ErrState)
		is(t, c.Close(), api.ErrState)
		receives(t, c, "")
		errs(t, c, p, confirm(0, 0, 4096, 512), bye(0), success(0), data(0, "x"), adjust(0, 1))
	}
}
