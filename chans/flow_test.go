package chans_test

import (
	"bytes"
	"math"
	"testing"

	"tabulary/api"
	"tabulary/chans"
)

// parts answers data of a text, in messages of so many bytes.
func parts(number uint32, s string, most int) []string {
	var l []string
	for s != "" {
		n := min(most, len(s))
		l = append(l, data(number, s[:n]))
		s = s[n:]
	}
	return l
}

// P10.1, P10.2: bytes go out in messages as great as may be, till the window is
// 0; what is above it waits.
func TestWindow(t *testing.T) {
	both(t, func(t *testing.T, server bool) {
		for _, c := range []struct {
			window, most uint32
			n, part      int // how many bytes go out, in parts of how many
		}{
			{0, 1, 0, 1},
			{1, 1, 1, 1},
			{5, 1, 5, 1},
			{5, 2, 5, 2},
			{511, 512, 511, 512},
			{512, 512, 512, 512},
			{513, 512, 513, 512},
			{4096, 511, 4096, 511},
			{4096, 513, 4096, 512},
			{4096, math.MaxUint32, 4096, 512},
			{9999, 512, 9999, 512},
			{10000, 512, 10000, 512},
			{math.MaxUint32, 1 << 31, 10000, 512},
		} {
			s := long(10000)
			e := running(t, server, 2, c.window, c.most)
			is(t, e.Send([]byte(s)), api.OK)
			stands(t, e, chans.Open, true, 10000-c.n)
			says(t, e, parts(2, s[:c.n], c.part)...)
		}
	})
}

// P10.1: what is sent stands behind what waits; no bytes are none.
func TestSend(t *testing.T) {
	both(t, func(t *testing.T, server bool) {
		c := running(t, server, 0, 6, 4)
		is(t, c.Send(nil), api.OK)
		is(t, c.Send([]byte{}), api.OK)
		says(t, c)
		is(t, c.Send([]byte("ab")), api.OK)
		is(t, c.Send([]byte("c")), api.OK)
		says(t, c, data(0, "ab"), data(0, "c"))
		is(t, c.Send([]byte("defg")), api.OK)
		is(t, c.Send([]byte("hi")), api.OK)
		is(t, c.Send(nil), api.OK)
		says(t, c, data(0, "def"))
		stands(t, c, chans.Open, true, 3)
		takes(t, c, adjust(0, 0))
		says(t, c)
		takes(t, c, adjust(0, 2))
		says(t, c, data(0, "gh"))
		is(t, c.Send([]byte("jklmno")), api.OK)
		says(t, c)
		stands(t, c, chans.Open, true, 7)
		takes(t, c, adjust(0, 100))
		says(t, c, data(0, "ijkl"), data(0, "mno"))
		stands(t, c, chans.Open, true, 0)
		is(t, c.Send([]byte(long(100))), api.OK)
		stands(t, c, chans.Open, true, 7)
	})
}

// P10.1: no bytes may be sent ahead of the subsystem.
func TestSendUnready(t *testing.T) {
	both(t, func(t *testing.T, server bool) {
		c := opened(t, server, 0, 4096, 512)
		is(t, c.Send([]byte("x")), api.ErrState)
		is(t, c.Send(nil), api.ErrState)
		stands(t, c, chans.Open, false, 0)
		says(t, c)
	})
}

// P10.1: a window is widened up to 2^31 - 1; of a first one 2^30 count.
func TestWidestWindow(t *testing.T) {
	both(t, func(t *testing.T, server bool) {
		for _, first := range []uint32{1<<30 - 1, 1 << 30, 1<<30 + 1, 1 << 31, math.MaxUint32} {
			c := running(t, server, 0, first, 512)
			left := uint32(1<<31-1) - min(first, 1<<30)
			errs(t, c, adjust(0, left+1), adjust(0, 1<<31-1), adjust(0, 1<<31), adjust(0, math.MaxUint32), adjust(0, -min(first, 1<<30)))
			takes(t, c, adjust(0, left-1), adjust(0, 1))
			errs(t, c, adjust(0, 1), adjust(0, math.MaxUint32))
			takes(t, c, adjust(0, 0))
			is(t, c.Send([]byte(long(1000))), api.OK)
			says(t, c, parts(0, long(1000), 512)...)
			errs(t, c, adjust(0, 1001))
			takes(t, c, adjust(0, 1000))
			errs(t, c, adjust(0, 1))
		}
		c := running(t, server, 0, 0, 512)
		errs(t, c, adjust(0, 1<<31), adjust(0, math.MaxUint32))
		takes(t, c, adjust(0, 1<<31-1))
		errs(t, c, adjust(0, 1))
	})
}

// P10.1: a window is widened ahead of the subsystem, too.
func TestAdjustUnready(t *testing.T) {
	both(t, func(t *testing.T, server bool) {
		c := opened(t, server, 0, 1, 512)
		takes(t, c, adjust(0, 2))
		says(t, c)
		if server {
			takes(t, c, request(0, "subsystem", "\x00", text("netconf")))
		} else {
			takes(t, c, success(0))
		}
		is(t, c.Send([]byte("abcd")), api.OK)
		says(t, c, data(0, "abc"))
	})
}

// P10.1: up to MaxPart bytes of data come in a message, and up to MaxWindow till
// they are received; then as many more.
func TestRoom(t *testing.T) {
	both(t, func(t *testing.T, server bool) {
		c := running(t, server, 4, 1, 1)
		errs(t, c, data(0, long(513)), data(0, long(4096)), data(0, long(20000)))
		for range 7 {
			takes(t, c, data(0, long(512)))
		}
		takes(t, c, data(0, long(511)), data(0, ""))
		errs(t, c, data(0, "xy"))
		takes(t, c, data(0, "z"), data(0, ""))
		errs(t, c, data(0, "x"))
		says(t, c)
		all := ""
		for range 7 {
			all += long(512)
		}
		all += long(511) + "z"
		receives(t, c, all)
		says(t, c, adjust(4, 4096))
		for range 8 {
			takes(t, c, data(0, long(512)))
		}
		errs(t, c, data(0, "x"))
		if got := c.Recv(); len(got) != 4096 {
			t.Fatal(len(got))
		}
		says(t, c, adjust(4, 4096))
		takes(t, c, data(0, "abc"))
		receives(t, c, "abc")
		takes(t, c, data(0, "d"))
		receives(t, c, "d")
		says(t, c, adjust(4, 3), adjust(4, 1))
	})
}

// P10.1: no bytes that came are none: nothing is said of them.
func TestReceiveNothing(t *testing.T) {
	both(t, func(t *testing.T, server bool) {
		c := running(t, server, 0, 1, 1)
		receives(t, c, "")
		takes(t, c, data(0, ""))
		receives(t, c, "")
		says(t, c)
	})
}

// P10.1: bytes come ahead of the subsystem, too.
func TestDataUnready(t *testing.T) {
	both(t, func(t *testing.T, server bool) {
		c := opened(t, server, 3, 1, 1)
		takes(t, c, data(0, "early"))
		receives(t, c, "early")
		says(t, c, adjust(3, 5))
		stands(t, c, chans.Open, false, 0)
	})
}

// P10.1: behind the other side's end no data come, not even none; it is told
// once. All else goes on.
func TestEnd(t *testing.T) {
	both(t, func(t *testing.T, server bool) {
		c := running(t, server, 3, 4, 1)
		takes(t, c, data(0, "abc"), eof(0))
		errs(t, c, data(0, "d"), data(0, ""), eof(0))
		stands(t, c, chans.Open, true, 0)
		receives(t, c, "abc")
		says(t, c, adjust(3, 3))
		is(t, c.Send([]byte("hello")), api.OK)
		says(t, c, parts(3, "hell", 1)...)
		takes(t, c, adjust(0, 1), request(0, "x", "\x01", ""))
		says(t, c, data(3, "o"), failure(3))
		errs(t, c, eof(0))
		takes(t, c, bye(0))
		stands(t, c, chans.Shut, true, 0)
	})
}

// P10.1: what was handed in is not kept, and what is answered is new memory.
func TestMemory(t *testing.T) {
	both(t, func(t *testing.T, server bool) {
		c := running(t, server, 0, 4, 2)
		b := []byte("abcdef")
		is(t, c.Send(b[:5]), api.OK)
		if string(b) != "abcdef" {
			t.Fatalf("Send made it %q", b)
		}
		clear(b)
		l := c.Out()
		if len(l) != 2 || string(l[0]) != data(0, "ab") || string(l[1]) != data(0, "cd") {
			t.Fatalf("%q", l)
		}
		clear(l[0][:cap(l[0])])
		if string(l[1]) != data(0, "cd") {
			t.Fatal("two messages share memory")
		}
		clear(l[1][:cap(l[1])])
		clear(l[:cap(l)])
		p := []byte(data(0, "xyz"))
		takesBytes(t, c, p)
		clear(p)
		takes(t, c, adjust(0, 1))
		says(t, c, data(0, "e"))
		got := c.Recv()
		if string(got) != "xyz" {
			t.Fatalf("%q", got)
		}
		takes(t, c, data(0, "uvw"))
		clear(got[:cap(got)])
		receives(t, c, "uvw")
	})
}

// takesBytes hands over bytes that may not change.
func takesBytes(t *testing.T, c *chans.Chan, p []byte) {
	t.Helper()
	keep := bytes.Clone(p)
	if e := c.Take(p[:len(p):len(p)]); e != api.OK || !bytes.Equal(p, keep) {
		t.Fatalf("Take(%q): %d, %q", keep, e, p)
	}
}
