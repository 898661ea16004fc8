package kex_test

import (
	"bytes"
	"crypto/ed25519"
	"math/rand"
	"slices"
	"strings"
	"testing"

	"tabulary/api"
	"tabulary/kex"
	"tabulary/twist"
)

// P8.1: the numbers of messages.
func TestMessages(t *testing.T) {
	if kex.MsgInit != 20 || kex.MsgNewKeys != 21 || kex.MsgAsk != 30 || kex.MsgReply != 31 {
		t.Error("a message has another number")
	}
}

// P8.1: a share as a payload, and back, if it has 32 bytes.
func TestAsk(t *testing.T) {
	rnd := rand.New(rand.NewSource(8))
	for _, n := range []int{0, 1, 31, 32, 33, 64, 2000, 20000} {
		share := someText(rnd, n)
		p := kex.Ask(share)
		isBytes(t, "Ask", p, []byte("\x1E"+text(share)))
		want := ""
		if n == 32 {
			want = share
		}
		if got := kex.ReadAsk(p); got != want {
			t.Errorf("a share of %d bytes is read as %q", n, got)
		}
	}
	zeros := strings.Repeat("\x00", 32)
	if kex.ReadAsk(kex.Ask(zeros)) != zeros {
		t.Error("a share of zeros isn't read")
	}
}

// P8.1: a payload that isn't just a message and a share of 32 bytes.
func TestReadAskOfOthers(t *testing.T) {
	p := kex.Ask(strings.Repeat("s", 32))
	var all [][]byte
	for n := range p {
		all = append(all, p[:n])
	}
	for i := range 5 {
		for bit := range 8 {
			b := bytes.Clone(p)
			b[i] ^= 1 << bit
			all = append(all, b)
		}
	}
	all = append(all, nil, p[1:], append(bytes.Clone(p), 0), append(bytes.Clone(p), p...))
	for _, b := range all {
		if got := kex.ReadAsk(b); got != "" {
			t.Errorf("ReadAsk(%q): %q", b, got)
		}
	}
}

// P8.1, P8.2: a reply to any talk: its bytes, what is read of it, and that its
// signature is taken by the host's key over that talk, and over no other.
func TestReply(t *testing.T) {
	rnd := rand.New(rand.NewSource(9))
	for range 20 {
		seed := someBytes(rnd, 32)
		talk := someTalk(rnd, seed)
		p, e := kex.Reply(talk, string(seed))
		if e != api.OK {
			t.Fatalf("Reply's error: %d", e)
		}
		sig := ed25519.Sign(ed25519.NewKeyFromSeed(seed), []byte(hashOf(talk)))
		isBytes(t, "Reply", p, replyOf(talk.Host, talk.Shares[1], told(string(sig))))
		host, share, got, ok := kex.ReadReply(p)
		if !ok || host != talk.Host || share != talk.Shares[1] {
			t.Fatalf("ReadReply: %q, %q, %t", host, share, ok)
		}
		isBytes(t, "the signature", got, sig)
		pub := []byte(kex.ReadBlob(host))
		if !twist.Verify(pub, kex.Hash(talk), got) {
			t.Error("the host's key doesn't take the signature")
		}
		other := others(talk)[rnd.Intn(len(others(talk)))]
		if twist.Verify(pub, kex.Hash(other), got) {
			t.Error("the signature is taken over another talk")
		}
	}
}

// P8.2: a signature by another seed isn't taken by the host's key.
func TestReplyByAnotherSeed(t *testing.T) {
	rnd := rand.New(rand.NewSource(10))
	talk := someTalk(rnd, someBytes(rnd, 32))
	p, e := kex.Reply(talk, someText(rnd, 32))
	host, _, sig, ok := kex.ReadReply(p)
	if e != api.OK || !ok || host != talk.Host {
		t.Fatalf("%d, %t, %q", e, ok, host)
	}
	if twist.Verify([]byte(kex.ReadBlob(host)), kex.Hash(talk), sig) {
		t.Error("the host's key takes another seed's signature")
	}
}

// P8.1: a reply tells the host and the share as the talk has them, whatever they are.
func TestReplyOfAny(t *testing.T) {
	rnd := rand.New(rand.NewSource(11))
	seed := someBytes(rnd, 32)
	key := ed25519.NewKeyFromSeed(seed)
	for _, talk := range []kex.Talk{
		{},
		{Host: "host", Shares: [2]string{"a", "b"}},
		{Host: told("short"), Shares: [2]string{"", strings.Repeat("x", 3000)}, Shared: []byte{0xff}},
	} {
		p, e := kex.Reply(talk, string(seed))
		want := replyOf(talk.Host, talk.Shares[1], told(string(ed25519.Sign(key, []byte(hashOf(talk))))))
		if e != api.OK || !bytes.Equal(p, want) {
			t.Errorf("Reply: %x, %d, want %x", p, e, want)
		}
		noReply(t, p)
	}
}

// P8.1: Sign's error, of a seed that hasn't 32 bytes.
func TestReplyOfWrongSeed(t *testing.T) {
	rnd := rand.New(rand.NewSource(12))
	talk := someTalk(rnd, someBytes(rnd, 32))
	for _, n := range []int{0, 1, 31, 33, 64} {
		if p, e := kex.Reply(talk, someText(rnd, n)); e != api.ErrLen || len(p) != 0 {
			t.Errorf("a seed of %d bytes: %x, %d", n, p, e)
		}
	}
}

// noReply fails the test if a payload is read as a reply, or in part.
func noReply(t *testing.T, p []byte) {
	t.Helper()
	host, share, sig, ok := kex.ReadReply(p)
	if ok || host != "" || share != "" || len(sig) != 0 {
		t.Errorf("ReadReply(%q): %q, %q, %q, %t", p, host, share, sig, ok)
	}
}

// P8.1: a payload that is cut anywhere, goes on, is another message, or has a
// part that isn't as it should be.
func TestReadReplyOfOthers(t *testing.T) {
	key, share, sig := strings.Repeat("k", 32), strings.Repeat("h", 32), strings.Repeat("s", 64)
	p := replyOf(told(key), share, told(sig))
	if host, got, s, ok := kex.ReadReply(p); !ok || host != told(key) || got != share || string(s) != sig {
		t.Fatalf("ReadReply: %q, %q, %q, %t", host, got, s, ok)
	}
	for n := range p {
		noReply(t, p[:n])
	}
	noReply(t, nil)
	noReply(t, append(bytes.Clone(p), 0))
	noReply(t, append(bytes.Clone(p), text("")...))
	noReply(t, p[1:])
	for message := range 256 {
		if message != 31 {
			noReply(t, append([]byte{byte(message)}, p[1:]...))
		}
	}
	for _, c := range [][3]string{
		{"", share, told(sig)},
		{key, share, told(sig)},
		{told(key[1:]), share, told(sig)},
		{told(key + "k"), share, told(sig)},
		{told(sig), share, told(sig)},
		{told(key) + "x", share, told(sig)},
		{text("ssh-rsa") + text(key), share, told(sig)},
		{told(key), "", told(sig)},
		{told(key), share[1:], told(sig)},
		{told(key), share + "h", told(sig)},
		{told(key), share, ""},
		{told(key), share, sig},
		{told(key), share, told(sig[1:])},
		{told(key), share, told(sig + "s")},
		{told(key), share, told(key)},
		{told(key), share, told(sig) + "x"},
		{told(key), share, text("ssh-rsa") + text(sig)},
		{told(sig), share, told(key)},
		{share, told(key), told(sig)},
		{told(key), told(sig), share},
	} {
		noReply(t, replyOf(c[0], c[1], c[2]))
	}
	// The signature stands as one text, not as its two behind the share.
	noReply(t, slices.Concat([]byte("\x1F"), []byte(text(told(key))+text(share)+told(sig))))
}

// P0: payloads of any bytes, and right ones of which a few are others.
func TestReadOfAnyBytes(t *testing.T) {
	rnd := rand.New(rand.NewSource(13))
	right := [][]byte{
		kex.Init(kex.Own(), "draw"),
		kex.Ask(someText(rnd, 32)),
		replyOf(told(someText(rnd, 32)), someText(rnd, 32), told(someText(rnd, 64))),
	}
	for i := range 20000 {
		p := bytes.Clone(right[i%3])
		if rnd.Intn(4) == 0 {
			p = someBytes(rnd, rnd.Intn(200))
		}
		for range rnd.Intn(3) {
			if len(p) > 0 {
				p[rnd.Intn(len(p))] = byte(rnd.Intn(256))
			}
		}
		p = p[:len(p)-rnd.Intn(len(p)+1)*rnd.Intn(2)]
		keep := bytes.Clone(p)
		kex.ReadInit(p)
		if share := kex.ReadAsk(p); share != "" && !bytes.Equal(kex.Ask(share), p) {
			t.Fatalf("ReadAsk(%q): %q", p, share)
		}
		if host, share, sig, ok := kex.ReadReply(p); ok && !bytes.Equal(replyOf(host, share, told(string(sig))), p) {
			t.Fatalf("ReadReply(%q)", p)
		}
		kex.ReadBlob(string(p))
		kex.ReadSignature(string(p))
		kex.Line(string(p))
		isBytes(t, "the payload", p, keep)
	}
}
