package frame_test

import (
	"bytes"
	"math/rand"
	"strconv"
	"testing"

	"tabulary/api"
	"tabulary/frame"
)

// P12.1: a nil *Decoder.
func TestNil(t *testing.T) {
	var d *frame.Decoder
	for range 2 {
		if s, e := d.Next(); s != "" || e != api.ErrArg {
			t.Fatal(s, e)
		}
		d.Feed([]byte("x]]>]]>"))
		d.Feed(nil)
		d.Switch()
	}
}

// What is fed is neither kept nor changed, and the room behind it isn't either.
func TestFedBytesStay(t *testing.T) {
	for _, chunked := range []bool{false, true} {
		room := []byte(frame.Encode("abc", chunked) + frame.Encode("de", chunked) + "more")
		keep := bytes.Clone(room)
		var d frame.Decoder
		if chunked {
			d.Switch()
		}
		n := len(room) - 6
		d.Feed(room[:n])
		tells(t, &d, "abc")
		d.Feed(keep[n : n+2])
		if !bytes.Equal(room, keep) {
			t.Fatalf("%q", room)
		}
		clear(room)
		tells(t, &d, "de")
		waits(t, &d)
	}
}

// someBytes answers bytes of a few messages, most of them right.
func someBytes(rnd *rand.Rand, chunked bool) string {
	all := ""
	for range 1 + rnd.Intn(4) {
		s := someText(rnd, someLength(rnd))
		if !chunked {
			all += frame.Encode(s, false)
			continue
		}
		for s != "" {
			n := 1 + rnd.Intn(len(s))
			if rnd.Intn(12) == 0 {
				all += "\n#" + strconv.Itoa(n+rnd.Intn(3)-1) + "\n" + s[:n]
			} else {
				all += chunk(s[:n])
			}
			s = s[n:]
		}
		all += "\n##\n"
	}
	b := []byte(all)
	switch rnd.Intn(12) {
	case 0:
		b[rnd.Intn(len(b))] = byte(rnd.Intn(256))
	case 1:
		b = b[:rnd.Intn(len(b))]
	case 2:
		b = append(b, "\n#0"...)
	case 3:
		b = append(b, someText(rnd, rnd.Intn(17000))...)
	case 4:
		b = append(b, "\n#1638"+someText(rnd, 2)...)
	}
	return string(b)
}

// asModel fails the test if a decoder answers otherwise than the model.
func asModel(t *testing.T, d *frame.Decoder, m *model) api.Errno {
	t.Helper()
	got, e := d.Next()
	want, f := m.next()
	if got != want || e != f {
		t.Fatalf("%s, %d, want %s, %d", short(got), e, short(want), f)
	}
	return e
}

// P12.1, P0: any bytes, cut anywhere, with calls in any order: what the words
// say of all of them, reckoned anew each time.
func TestAnyBytes(t *testing.T) {
	rnd := rand.New(rand.NewSource(2))
	told := map[api.Errno]int{}
	for range 800 {
		var d frame.Decoder
		var m model
		for range 4 {
			all := someBytes(rnd, m.chunks != (rnd.Intn(20) == 0))
			for all != "" {
				n := 1 + rnd.Intn(min(len(all), 1+rnd.Intn(20000)))
				d.Feed([]byte(all[:n]))
				m.all += all[:n]
				all = all[n:]
				for e := api.OK; e == api.OK && rnd.Intn(8) > 0; {
					e = asModel(t, &d, &m)
					told[e]++
				}
			}
			if rnd.Intn(2) == 0 {
				d.Switch()
				m.chunks = true
			}
		}
	}
	for _, e := range []api.Errno{api.OK, api.ErrWait, api.ErrLen, api.ErrForm, api.ErrOver} {
		if told[e] < 50 {
			t.Errorf("the test's own bytes: error %d came %d times", e, told[e])
		}
	}
}

// P12.1: every text of few signs, as chunks, byte by byte.
func TestAllShortTexts(t *testing.T) {
	const signs = "\n#01x"
	var walk func(s string)
	walk = func(s string) {
		d, m := begun(true, s), model{all: s, chunks: true}
		for e := api.OK; e == api.OK; {
			e = asModel(t, d, &m)
		}
		slow, m := begun(true, ""), model{chunks: true}
		for i := range s {
			slow.Feed([]byte(s[i : i+1]))
			m.all += s[i : i+1]
			for e := api.OK; e == api.OK; {
				e = asModel(t, slow, &m)
			}
		}
		if !m.over && len(s) < 11 {
			for _, c := range signs {
				walk(s + string(c))
			}
		}
	}
	walk("")
}
