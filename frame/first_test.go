package frame_test

import (
	"strings"
	"testing"

	"tabulary/api"
	"tabulary/frame"
)

// P12.1: a decoder begins as it is declared.
func TestBegin(t *testing.T) {
	var d frame.Decoder
	waits(t, &d)
	d.Feed(nil)
	d.Feed([]byte{})
	waits(t, &d)
	d.Feed([]byte("hello]]>]]>"))
	tells(t, &d, "hello")
	waits(t, &d)
}

// P12.1: the end of a message in the first framing.
func TestEnd(t *testing.T) {
	if frame.End != "]]>]]>" {
		t.Fatal(frame.End)
	}
}

// P12.1: messages one behind the other, some of them of no bytes.
func TestFirstFraming(t *testing.T) {
	d := begun(false, "a]]>]]>]]>]]>bc]]>]]>]]>]]>]]>]]>d")
	tells(t, d, "a", "", "bc", "", "")
	waits(t, d)
	d.Feed([]byte("]]>]]>"))
	tells(t, d, "d")
	waits(t, d)
}

// P12.1: what isn't all of an end is no end; what stands ahead of the first one
// is the message.
func TestNearlyEnds(t *testing.T) {
	for s, want := range map[string]string{
		"]]]>]]>":                  "]",
		"]]]]>]]>":                 "]]",
		"]]>]]]>]]>":               "]]>]",
		"]]>]]]]>]]>":              "]]>]]",
		"]]> ]]>]]>":               "]]> ",
		"]]>]>]]>]]>":              "]]>]>",
		"]>]]>]]>":                 "]>",
		">]]>]]>":                  ">",
		"]]>]]<]]>]]>":             "]]>]]<",
		"]]>\n]]>]]>]]>":           "]]>\n",
		"]]>]]>]]>":                "",
		"x]]>]]>]]>":               "x",
		"\n#3\nabc\n##\n]]>]]>":    "\n#3\nabc\n##\n",
		"\x00\xff\xc3\x28\r]]>]]>": "\x00\xff\xc3\x28\r",
	} {
		tells(t, begun(false, s), want)
	}
	waits(t, begun(false, "]]>]]"))
	waits(t, begun(false, "]]>]] >"))
	waits(t, begun(false, "]]>]>]"))
}

// P12.1: bytes one by one: a message is told once its end is all there, not
// sooner.
func TestFirstFramingByteByByte(t *testing.T) {
	var d frame.Decoder
	for range 3 {
		for _, s := range []string{"hello", "", "]]>]", "]]]]", "two\nlines"} {
			for _, b := range []byte(s + "]]>]]>") {
				waits(t, &d)
				d.Feed([]byte{b})
			}
			tells(t, &d, s)
		}
	}
	waits(t, &d)
}

// P12.1: a message has MaxMessage bytes at most, in whatever pieces it and its
// end come.
func TestLongest(t *testing.T) {
	for _, n := range []int{16383, 16384} {
		s := long(n)
		tells(t, begun(false, s+"]]>]]>"), s)
		for cut := range 7 {
			d := begun(false, s+"]]>]]>"[:cut])
			if cut < 6 {
				waits(t, d)
			}
			d.Feed([]byte("]]>]]>"[cut:] + s + "]]>]]>"))
			tells(t, d, s, s)
			waits(t, d)
		}
	}
}

// P12.1: an end that stands too far behind ends no message.
func TestTooLong(t *testing.T) {
	for _, n := range []int{16385, 16386, 16389, 16390, 16391, 20000, 100000} {
		fails(t, begun(false, long(n)+"]]>]]>"), api.ErrLen)
		fails(t, begun(false, long(n)+"]]>]]>x]]>]]>"), api.ErrLen)
		d := begun(false, "a]]>]]>"+long(n)+"]]>]]>")
		tells(t, d, "a")
		fails(t, d, api.ErrLen)
	}
}

// P12.1: without an end up to MaxMessage + 5 bytes wait.
func TestTooManyWait(t *testing.T) {
	for _, n := range []int{16384, 16385, 16388, 16389} {
		waits(t, begun(false, long(n)))
	}
	for _, n := range []int{16390, 16391, 16400, 40000} {
		fails(t, begun(false, long(n)), api.ErrLen)
	}
	d := begun(false, long(16389))
	waits(t, d)
	d.Feed([]byte("x"))
	fails(t, d, api.ErrLen)
	d = begun(false, "a]]>]]>"+long(16389))
	tells(t, d, "a")
	waits(t, d)
	d.Feed([]byte("]]>]]>"))
	fails(t, d, api.ErrLen)
	d = begun(false, strings.Repeat("]", 16389))
	waits(t, d)
	d.Feed([]byte("]"))
	fails(t, d, api.ErrLen)
}

// P12.1: MaxMessage + 5 bytes, the last five of which may begin an end: the byte
// behind them tells.
func TestEndAtTheLastByte(t *testing.T) {
	for _, c := range []struct {
		n    int // bytes ahead of what may be an end
		last string
		want api.Errno
	}{
		{16384, ">", api.OK},
		{16384, "]", api.ErrLen},
		{16384, "x", api.ErrLen},
		{16383, ">", api.OK},
		{16383, "x", api.ErrWait},
		{16383, "xy", api.ErrLen},
		{16385, ">", api.ErrLen},
	} {
		d := begun(false, long(c.n)+"]]>]]")
		if c.n < 16385 {
			waits(t, d)
		}
		d.Feed([]byte(c.last))
		switch c.want {
		case api.OK:
			tells(t, d, long(c.n))
		case api.ErrWait:
			waits(t, d)
		default:
			fails(t, d, c.want)
		}
	}
}
