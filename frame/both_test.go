package frame_test

import (
	"math/rand"
	"strings"
	"testing"

	"tabulary/api"
	"tabulary/frame"
)

// someText answers n bytes, many of which are those of ends and heads.
func someText(rnd *rand.Rand, n int) string {
	const likely = "]]]>>\n\n##0123456789"
	b := make([]byte, n)
	for i := range b {
		b[i] = likely[rnd.Intn(len(likely))]
		if rnd.Intn(4) == 0 {
			b[i] = byte(rnd.Intn(256))
		}
	}
	return string(b)
}

// someLength answers how long a message is, often at an edge.
func someLength(rnd *rand.Rand) int {
	return []int{1, rnd.Intn(12), rnd.Intn(200), rnd.Intn(3000), rnd.Intn(16385), 16384}[rnd.Intn(6)]
}

// mayBe tells whether a message is decoded as it was encoded.
func mayBe(s string, chunked bool) bool {
	if chunked {
		return s != "" // none is told of what has no bytes
	}
	return !strings.Contains(s, "]]>]]>") && !strings.HasSuffix(s, "]]>")
}

// P12.2: every length of messages, in both framings.
func TestThereAndBack(t *testing.T) {
	all := long(16384)
	a, b := begun(false, ""), begun(true, "")
	for n := 0; n <= 16384; n++ {
		if n > 1100 && n < 16300 && n%97 > 1 {
			continue
		}
		a.Feed([]byte(frame.Encode(all[:n], false)))
		tells(t, a, all[:n])
		waits(t, a)
		b.Feed([]byte(frame.Encode(all[:n], true)))
		if n > 0 {
			tells(t, b, all[:n])
		}
		waits(t, b)
	}
	fails(t, begun(false, frame.Encode(all+"x", false)), api.ErrLen)
	fails(t, begun(true, frame.Encode(all+"x", true)), api.ErrLen)
}

// P12.2: every text of few signs that may be, of those that ends and heads are
// made of.
func TestThereAndBackOfParts(t *testing.T) {
	for _, signs := range []string{"]>x", "\n#1"} {
		l := []string{""}
		for len(l) > 0 && len(l[0]) <= 7 {
			var longer []string
			for _, s := range l {
				for _, chunked := range []bool{false, true} {
					if mayBe(s, chunked) {
						d := begun(chunked, frame.Encode(s, chunked)+frame.Encode("y", chunked))
						tells(t, d, s, "y")
						waits(t, d)
					}
				}
				for _, c := range signs {
					longer = append(longer, s+string(c))
				}
			}
			l = longer
		}
	}
}

// P12.2: many messages, some in the first framing and then as chunks, in any
// pieces.
func TestThereAndBackInParts(t *testing.T) {
	rnd := rand.New(rand.NewSource(1))
	for range 150 {
		var d frame.Decoder
		for _, chunked := range []bool{false, true} {
			if chunked {
				d.Switch()
			}
			all := ""
			var want []string
			for range rnd.Intn(10) {
				s := someText(rnd, someLength(rnd))
				if mayBe(s, chunked) {
					want = append(want, s)
					all += frame.Encode(s, chunked)
				}
			}
			for all != "" {
				n := 1 + rnd.Intn(min(len(all), 1+rnd.Intn(9000)))
				d.Feed([]byte(all[:n]))
				all = all[n:]
				for rnd.Intn(3) > 0 && len(want) > 0 {
					s, e := d.Next()
					if e == api.ErrWait {
						break
					}
					if e != api.OK || s != want[0] {
						t.Fatalf("%s, %d, want %s", short(s), e, short(want[0]))
					}
					want = want[1:]
				}
			}
			tells(t, &d, want...)
			waits(t, &d)
		}
	}
}
