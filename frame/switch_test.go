package frame_test

import (
	"testing"

	"tabulary/api"
	"tabulary/frame"
)

// P12.1: a message's End is the last byte of it: bytes behind it that wait are
// chunks, once that is said.
func TestSwitch(t *testing.T) {
	s := "hello]]>]]>" + chunks("a", "b") + chunks("]]>]]>")
	for n := range len(s) + 1 {
		d := begun(false, s[:n])
		if n >= 11 {
			tells(t, d, "hello")
			d.Switch()
			d.Feed([]byte(s[n:]))
		} else {
			waits(t, d)
			d.Feed([]byte(s[n:]))
			tells(t, d, "hello")
			d.Switch()
		}
		tells(t, d, "ab", "]]>]]>")
		waits(t, d)
	}
}

// P12.1: all that waits is looked at as chunks from then on.
func TestSwitchAmidBytes(t *testing.T) {
	d := begun(false, "hello")
	waits(t, d)
	d.Switch()
	fails(t, d, api.ErrForm)
	d = begun(false, "hello]]>]]>")
	d.Switch()
	fails(t, d, api.ErrForm)
	d = begun(false, "\n#2\na")
	waits(t, d)
	d.Switch()
	waits(t, d)
	d.Feed([]byte("b\n##\n"))
	tells(t, d, "ab")
	d = begun(false, long(16390))
	d.Switch()
	fails(t, d, api.ErrForm)
	var l []string
	for range 10 {
		l = append(l, long(1638))
	}
	d = begun(false, chunks(l...))
	d.Switch()
	got, e := d.Next()
	if e != api.OK || len(got) != 16380 {
		t.Fatal(len(got), e)
	}
}

// P12.1: once there are chunks it changes nothing to say so again, and the first
// framing doesn't come back.
func TestSwitchAgain(t *testing.T) {
	d := begun(true, "")
	for _, b := range []byte(chunks("abc", "de")) {
		d.Feed([]byte{b})
		d.Switch()
		d.Switch()
		if _, e := d.Next(); b != '\n' && e != api.ErrWait {
			t.Fatal(e)
		}
	}
	waits(t, d)
	d.Switch()
	d.Feed([]byte(chunk("x")))
	waits(t, d)
	d.Switch()
	d.Feed([]byte("\n##\n"))
	tells(t, d, "x")
	d.Feed([]byte("x]]>]]>"))
	fails(t, d, api.ErrForm)
	fails(t, begun(true, "]]>]]>"), api.ErrForm)
	waits(t, begun(true, chunk("abc")+"\n##"))
}

// P12.1: a decoder that is over stays so, of either framing.
func TestOver(t *testing.T) {
	d := begun(false, long(16390))
	fails(t, d, api.ErrLen)
	for range 3 {
		d.Switch()
		d.Feed([]byte(chunks("x")))
		isOver(t, d)
	}
	d = begun(true, "x")
	d.Feed([]byte("]]>]]>"))
	fails(t, d, api.ErrForm)
}

// P12.1: decoders know nothing of each other.
func TestTwoDecoders(t *testing.T) {
	var a, b frame.Decoder
	a.Switch()
	a.Feed([]byte(chunks("x")[:5]))
	b.Feed([]byte("hel"))
	waits(t, &a)
	waits(t, &b)
	a.Feed([]byte(chunks("x")[5:]))
	b.Feed([]byte("lo]]>]]>"))
	tells(t, &a, "x")
	tells(t, &b, "hello")
	a.Feed([]byte("x"))
	fails(t, &a, api.ErrForm)
	waits(t, &b)
}
