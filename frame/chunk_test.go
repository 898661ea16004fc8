package frame_test

import (
	"strconv"
	"strings"
	"testing"

	"tabulary/api"
)

// P12.1: a message is what its chunks hold, one behind the other, whatever they
// hold.
func TestChunks(t *testing.T) {
	for _, l := range [][]string{
		{"x"},
		{"abcd", "ef"},
		{"\n", "\n"},
		{"#", "\n#1\n", "#"},
		{"\n##\n"},
		{"]]>", "]]>"},
		{"]]>]]>"},
		{"\x00\xff\xc3", "\x28\r"},
		{"123456789", "1234567890"},
		{long(99), long(100), long(999), long(1000), long(9999), "1"},
	} {
		tells(t, begun(true, chunks(l...)), strings.Join(l, ""))
		d := begun(true, chunks(l...)+chunks("y")+chunks(l...)+"\n")
		tells(t, d, strings.Join(l, ""), "y", strings.Join(l, ""))
		waits(t, d)
	}
	waits(t, begun(true, ""))
}

// P12.1: bytes one by one: a message is told once its last chunk's head is all
// there, not sooner, and nothing is left of it.
func TestChunksByteByByte(t *testing.T) {
	d := begun(true, "")
	for range 3 {
		for _, l := range [][]string{{"x"}, {"abcd", "ef"}, {"\n##\n", "\n", "##\n"}, {long(1234), "1", long(10)}} {
			for _, b := range []byte(chunks(l...)) {
				waits(t, d)
				d.Feed([]byte{b})
			}
			tells(t, d, strings.Join(l, ""))
		}
	}
	waits(t, d)
}

// P12.1: chunks that are cut in two anywhere.
func TestChunksCut(t *testing.T) {
	s := chunks("abcd", "\n#12\n", "0123456789") + chunks("x", "y")
	for n := range len(s) + 1 {
		d := begun(true, s[:n])
		for e := api.OK; e == api.OK; {
			_, e = d.Next()
			if e != api.OK && e != api.ErrWait {
				t.Fatal(n, e)
			}
		}
		d = begun(true, s[:n])
		d.Feed([]byte(s[n:]))
		tells(t, d, "abcd\n#12\n0123456789", "xy")
		waits(t, d)
	}
}

// wrongHeads answers heads that may not be, and what stands behind them: each is
// wrong at its last byte, not sooner.
func wrongHeads() []string {
	return []string{
		"x", "#", "\r", "\x00", "]", "\n\n", "\nx", "\n1", "\n\r", "\n ",
		"\n#\n", "\n#0\n", "\n#00\n", "\n#01\n", "\n#0001\n", "\n#0000000\n",
		"\n#a\n", "\n#1a\n", "\n#a1\n", "\n#1 \n", "\n# 1\n", "\n#1\r\n", "\n#+1\n", "\n#-1\n", "\n#-0\n", "\n#1.\n", "\n#1e1\n", "\n#0x1\n", "\n#1_0\n", "\n#:\n", "\n#/\n", "\n#1\x00\n",
		"\n#\xef\xbc\x91\n", // a digit one, but not of one byte
		"\n###\n", "\n##1\n", "\n#1#\n", "\n## \n", "\n##\r\n", "\n##x\n", "\n######\n",
		"\n#12345678", "\n#00000001", "\n#99999999", "\n#########", "\n##xxxxxxx", "\n#xxxxxxxx", "\n#       1",
	}
}

// P12.1: heads that may not be, ahead of a message's first chunk and behind it.
func TestWrongHeads(t *testing.T) {
	for _, s := range wrongHeads() {
		for _, ahead := range []string{"", chunk("abc"), chunk("a") + chunk("\n")} {
			fails(t, begun(true, ahead+s), api.ErrForm)
			fails(t, begun(true, ahead+s+"1\nx\n##\n"), api.ErrForm)
			fails(t, begun(true, ahead+s+long(20000)), api.ErrForm)
			d := begun(true, chunks("ab")+ahead)
			for i, b := range []byte(s) {
				d.Feed([]byte{b})
				if i == 0 {
					tells(t, d, "ab")
				}
				if i < len(s)-1 {
					waits(t, d)
				}
			}
			fails(t, d, api.ErrForm)
		}
	}
}

// P12.1: a message has one chunk at least.
func TestNoChunk(t *testing.T) {
	waits(t, begun(true, "\n##"))
	fails(t, begun(true, "\n##\n"), api.ErrForm)
	fails(t, begun(true, "\n##\n"+chunks("x")), api.ErrForm)
	d := begun(true, chunks("x")+"\n##\n")
	tells(t, d, "x")
	fails(t, d, api.ErrForm)
	d = begun(true, chunks("x")+"\n##")
	tells(t, d, "x")
	waits(t, d)
}

// P12.1: a head waits as long as it may still become one, even if it will be
// wrong; it's as long as it is up to the second end of a line.
func TestHeadsThatWait(t *testing.T) {
	for _, s := range []string{"\n", "\n#", "\n#0", "\n#x", "\n#-", "\n#00", "\n##", "\n###", "\n##x", "\n#1", "\n#9999999", "\n#xxxxxxx", "\n##xxxxxx"} {
		waits(t, begun(true, s))
		waits(t, begun(true, chunk("abc")+s))
	}
	// The tenth byte is too much, if it isn't the end of a line.
	fails(t, begun(true, "\n#1234567\n"), api.ErrLen)
	fails(t, begun(true, "\n#12345678\n"), api.ErrForm)
	fails(t, begun(true, "\n#0016384\n"+long(16384)), api.ErrForm)
}

// P12.1: a message has MaxMessage bytes at most, in as many chunks as may be;
// a chunk above that is wrong as soon as its head is there.
func TestLongestOfChunks(t *testing.T) {
	s := long(16384)
	for _, l := range [][]string{{s}, {s[:1], s[1:]}, {s[:16383], s[16383:]}, {s[:5000], s[5000:10000], s[10000:]}} {
		d := begun(true, chunks(l...)+chunks(l...))
		tells(t, d, s, s)
		waits(t, d)
	}
	var each []string
	for i := range s {
		each = append(each, s[i:i+1])
	}
	d := begun(true, strings.TrimSuffix(chunks(each...), "\n"))
	waits(t, d)
	d.Feed([]byte("\n"))
	tells(t, d, s)
	d = begun(true, chunks(s[1:], "x"))
	tells(t, d, s[1:]+"x")
	fails(t, begun(true, strings.TrimSuffix(chunks(each...), "\n##\n")+"\n#1\n"), api.ErrLen)
}

// P12.1: sizes by which a message would be too long.
func TestTooLongOfChunks(t *testing.T) {
	for _, n := range []int{16385, 16386, 20000, 99999, 100000, 999999, 1000000, 9999999} {
		head := "\n#" + strconv.Itoa(n) + "\n"
		waits(t, begun(true, strings.TrimSuffix(head, "\n")))
		fails(t, begun(true, head), api.ErrLen)
		fails(t, begun(true, head+long(20000)), api.ErrLen)
		fails(t, begun(true, chunk("a")+head), api.ErrLen)
		d := begun(true, chunks("a")+head)
		tells(t, d, "a")
		fails(t, d, api.ErrLen)
	}
	for _, n := range []int{1, 2, 100, 8192, 16383, 16384} {
		ahead, room := chunk(long(n)), 16384-n
		waits(t, begun(true, ahead[:len(ahead)-1]))
		waits(t, begun(true, ahead+"\n#"+strconv.Itoa(room+1)))
		fails(t, begun(true, ahead+"\n#"+strconv.Itoa(room+1)+"\n"), api.ErrLen)
		fails(t, begun(true, ahead+"\n#16384\n"), api.ErrLen)
		if room > 0 {
			waits(t, begun(true, ahead+"\n#"+strconv.Itoa(room)+"\n"))
		}
	}
}

// P12.1: each message may be as long as any.
func TestManyMessages(t *testing.T) {
	d := begun(true, "")
	for i := range 20 {
		a, b := long(16384-i%3), long(16384-i%5)
		d.Feed([]byte(chunks(a[:9000], a[9000:]) + chunks(b)))
		tells(t, d, a, b)
		waits(t, d)
	}
}
