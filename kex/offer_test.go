package kex_test

import (
	"bytes"
	"math/rand"
	"slices"
	"strings"
	"testing"

	"tabulary/api"
	"tabulary/kex"
)

// ownLists are Own's, each as a text.
var ownLists = [8]string{
	"curve25519-sha256", "ssh-ed25519", "aes128-ctr", "aes128-ctr",
	"hmac-sha2-256", "hmac-sha2-256", "none", "none",
}

// isLists fails the test if the lists aren't those of the texts.
func isLists(t *testing.T, what string, got kex.Lists, want [8]string) {
	t.Helper()
	for i, l := range got {
		if strings.Join(l, ",") != want[i] || (len(l) == 0) != (want[i] == "") {
			t.Errorf("%s: list %d is %q, want %q", what, i, l, want[i])
		}
	}
}

// readsOffer fails the test if a payload's lists aren't those of the texts.
func readsOffer(t *testing.T, p []byte, want [8]string) {
	t.Helper()
	l, e := kex.ReadInit(p)
	if e != api.OK {
		t.Errorf("ReadInit of %q: error %d", p, e)
		return
	}
	isLists(t, "ReadInit", l, want)
}

// noOffer fails the test if a payload isn't refused, with no lists.
func noOffer(t *testing.T, what string, p []byte) {
	t.Helper()
	l, e := kex.ReadInit(p)
	if e != api.ErrForm {
		t.Errorf("%s: ReadInit's error %d", what, e)
	}
	isLists(t, what, l, [8]string{})
}

// P8.1: Own's lists, in new memory each time.
func TestOwn(t *testing.T) {
	first := kex.Own()
	isLists(t, "Own", first, ownLists)
	for i := range first {
		first[i][0] = "changed"
		for j := range first {
			if j > i && first[j][0] == "changed" {
				t.Errorf("lists %d and %d are one", i, j)
			}
		}
	}
	isLists(t, "Own anew", kex.Own(), ownLists)
}

// P8.1: an offer's payload, to the byte.
func TestInit(t *testing.T) {
	isBytes(t, "Own", kex.Init(kex.Own(), "draw"), unhex(t, "1481de3150dc97ee4c53b76260fbf7d791"+
		"00000011637572766532353531392d736861323536"+"0000000b7373682d65643235353139"+
		"0000000a6165733132382d637472"+"0000000a6165733132382d637472"+
		"0000000d686d61632d736861322d323536"+"0000000d686d61632d736861322d323536"+
		"000000046e6f6e65"+"000000046e6f6e65"+"0000000000000000"+"00"+"00000000"))
	isBytes(t, "no lists", kex.Init(kex.Lists{}, ""), offer(drawn(""), [8]string{}, ending))
}

// P8.1: an offer of any lists and draws.
func TestInitOfAny(t *testing.T) {
	rnd := rand.New(rand.NewSource(1))
	for range 300 {
		l, want := someLists(rnd)
		draw := someText(rnd, rnd.Intn(70))
		p := kex.Init(l, draw)
		isBytes(t, "Init", p, offer(drawn(draw), want, ending))
		readsOffer(t, p, want)
	}
}

// someLists answers lists of some names, and each as a text.
func someLists(rnd *rand.Rand) (kex.Lists, [8]string) {
	var l kex.Lists
	var s [8]string
	for i := range l {
		for range rnd.Intn(5) {
			l[i] = append(l[i], strings.Repeat(string(rune('a'+rnd.Intn(26))), 1+rnd.Intn(20)))
		}
		s[i] = strings.Join(l[i], ",")
	}
	return l, s
}

// P8.1: an offer with any sixteen bytes, lists behind the eight, flag and number.
func TestReadInit(t *testing.T) {
	rnd := rand.New(rand.NewSource(2))
	lists := [8]string{"a,b,c", "", "x", "x,x", "a@b", "", " ", "\x00\xff,z"}
	for range 300 {
		behind := text("en,de") + text("fr")
		switch rnd.Intn(3) {
		case 0:
			behind = text("") + text("x")
		case 1:
			behind = text("x,y") + text("")
		}
		behind += someText(rnd, 1) + someText(rnd, 4)
		readsOffer(t, offer(someText(rnd, 16), lists, behind), lists)
	}
	for flag := range 256 {
		readsOffer(t, offer(drawn(""), lists, text("")+text("")+string([]byte{byte(flag)})+"\xff\xff\xff\xff"), lists)
	}
}

// P8.1: an offer that is cut anywhere, or goes on, is none; nor is another message.
func TestReadInitOfOthers(t *testing.T) {
	p := offer(drawn("x"), ownLists, ending)
	for n := range p {
		noOffer(t, "cut", p[:n])
	}
	noOffer(t, "nothing", nil)
	for _, more := range []string{"\x00", "\x14", "more", string(p)} {
		noOffer(t, "going on", append(bytes.Clone(p), more...))
	}
	for message := range 256 {
		other := bytes.Clone(p)
		other[0] = byte(message)
		if message == 20 {
			readsOffer(t, other, ownLists)
		} else {
			noOffer(t, "another message", other)
		}
	}
}

// P8.1: lists with an empty name, or longer than a text may be, are none: the
// eight and those behind.
func TestReadInitOfWrongLists(t *testing.T) {
	longest := strings.Repeat("x", api.MaxMessage)
	for i := range 10 {
		for _, s := range []string{",", ",a", "a,", "a,,b", longest + "x"} {
			noOffer(t, "a wrong list", offerWith(i, s))
		}
		for _, s := range []string{"a,b", longest} {
			want := ownLists
			if i < 8 {
				want[i] = s
			}
			readsOffer(t, offerWith(i, s), want)
		}
	}
}

// offerWith answers an offer one of whose ten lists is s.
func offerWith(i int, s string) []byte {
	lists, behind := ownLists, [2]string{}
	if i < 8 {
		lists[i] = s
	} else {
		behind[i-8] = s
	}
	return offer(drawn(""), lists, text(behind[0])+text(behind[1])+"\x00\x00\x00\x00\x00")
}

// P8.1: what is read is new memory, and what was handed in stays.
func TestReadInitShares(t *testing.T) {
	p := offer(drawn(""), [8]string{"a,b", "a,b", "a,b", "a,b", "a,b", "a,b", "a,b", "a,b"}, ending)
	keep := bytes.Clone(p)
	l, e := kex.ReadInit(p)
	if e != api.OK || !bytes.Equal(p, keep) {
		t.Fatalf("error %d, or the payload was changed", e)
	}
	clear(p)
	for i := range l {
		if !slices.Equal(l[i], []string{"a", "b"}) {
			t.Errorf("list %d hangs on the payload or on another list: %q", i, l[i])
		}
		l[i] = append(l[i], "c")
		l[i][0] = "changed"
	}
}
