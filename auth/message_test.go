package auth_test

import (
	"encoding/hex"
	"math/rand"
	"strings"
	"testing"

	"tabulary/api"
	"tabulary/auth"
)

// P9.1: the messages' numbers.
func TestNumbers(t *testing.T) {
	for want, got := range map[int]int{
		5:  auth.MsgService,
		6:  auth.MsgAccept,
		50: auth.MsgRequest,
		51: auth.MsgFailure,
		52: auth.MsgSuccess,
		60: auth.MsgFits,
	} {
		if got != want {
			t.Errorf("%d, want %d", got, want)
		}
	}
}

// P9.1: requests, byte by byte.
func TestMessagesInFull(t *testing.T) {
	isBytes(t, "Service", auth.Service("ssh-userauth"), "\x05\x00\x00\x00\x0cssh-userauth")
	isBytes(t, "Accept", auth.Accept("ssh-userauth"), "\x06\x00\x00\x00\x0cssh-userauth")
	isBytes(t, "None", auth.None("ann"), "\x32\x00\x00\x00\x03ann\x00\x00\x00\x0essh-connection\x00\x00\x00\x04none")
	isBytes(t, "Password", auth.Password("ann", "x"), "\x32\x00\x00\x00\x03ann\x00\x00\x00\x0essh-connection\x00\x00\x00\x08password\x00\x00\x00\x00\x01x")
	key := strings.Repeat("k", 32)
	isBytes(t, "Ask", auth.Ask("ann", key), "\x32\x00\x00\x00\x03ann\x00\x00\x00\x0essh-connection\x00\x00\x00\x09publickey\x00"+
		"\x00\x00\x00\x0bssh-ed25519\x00\x00\x00\x33\x00\x00\x00\x0bssh-ed25519\x00\x00\x00\x20"+key)
}

// P9.1: a request by RFC 8032's first seed, byte by byte; the signature is Go's
// library's.
func TestProveInFull(t *testing.T) {
	seed, _ := hex.DecodeString("9d61b19deffd5a60ba844af492ec2cc44449c5697b326919703bac031cae7f60")
	pub, _ := hex.DecodeString("d75a980182b10ab7d54bfed3c964073a0ee172f3daa62325af021a68f707511a")
	p, e := auth.Prove([]byte{1, 2, 3}, "ann", string(seed))
	want := "\x32\x00\x00\x00\x03ann\x00\x00\x00\x0essh-connection\x00\x00\x00\x09publickey\x01" +
		"\x00\x00\x00\x0bssh-ed25519\x00\x00\x00\x33\x00\x00\x00\x0bssh-ed25519\x00\x00\x00\x20" + string(pub) +
		"\x00\x00\x00\x53\x00\x00\x00\x0bssh-ed25519\x00\x00\x00\x40"
	sig := sigOf(string(seed), "\x00\x00\x00\x03\x01\x02\x03"+want[:len(want)-23])
	if e != api.OK {
		t.Fatal(e)
	}
	isBytes(t, "Prove", p, want+sig)
}

// P9.1: names, passwords, keys and sessions of any bytes, and of none.
func TestMessagesOfAny(t *testing.T) {
	rnd := rand.New(rand.NewSource(1))
	for i := range 400 {
		n := rnd.Intn(40) * (i % 4)
		name, other, seed := someText(rnd, n), someText(rnd, rnd.Intn(n+1)), someText(rnd, 32)
		isBytes(t, "Service", auth.Service(name), "\x05"+text(name))
		isBytes(t, "Accept", auth.Accept(name), "\x06"+text(name))
		isBytes(t, "None", auth.None(name), string(conn(name, "none", "")))
		isBytes(t, "Password", auth.Password(name, other), string(byPassword(name, "\x00", other)))
		isBytes(t, "Ask", auth.Ask(name, other), string(byKey(name, "\x00", "ssh-ed25519", told(other), "")))
		p, e := auth.Prove([]byte(other), name, seed)
		if e != api.OK {
			t.Fatal(e)
		}
		isBytes(t, "Prove", p, string(proof(other, name, seed)))
	}
	long := someText(rnd, 100000)
	isBytes(t, "Service", auth.Service(long), "\x05"+text(long))
	isBytes(t, "Password", auth.Password(long, long), string(byPassword(long, "\x00", long)))
	isBytes(t, "Ask", auth.Ask(long, long), string(byKey(long, "\x00", "ssh-ed25519", told(long), "")))
	p, e := auth.Prove([]byte(long), long, aSeed)
	if e != api.OK {
		t.Fatal(e)
	}
	isBytes(t, "Prove", p, string(proof(long, long, aSeed)))
}

// P9.1: a seed that hasn't 32 bytes is ErrLen, and nothing besides.
func TestProveOfOtherLengths(t *testing.T) {
	for _, n := range []int{0, 1, 31, 33, 64, 1000} {
		if p, e := auth.Prove([]byte(session), "key", strings.Repeat("a", n)); e != api.ErrLen || len(p) != 0 {
			t.Errorf("a seed of %d bytes: %q, %d", n, p, e)
		}
	}
	if p, e := auth.Prove(nil, "", aSeed); e != api.OK || string(p) != string(proof("", "", aSeed)) {
		t.Errorf("no session, no name: %q, %d", p, e)
	}
}

// P9.1: a session isn't changed, nor the room behind it, and no message shares
// memory with another one.
func TestMessagesShare(t *testing.T) {
	room := []byte(session + strings.Repeat("behind", 100))
	keep := string(room)
	p, _ := auth.Prove(room[:len(session)], "key", aSeed)
	isBytes(t, "what was handed in", room, keep)
	clear(room)
	isBytes(t, "Prove", p, string(proof(session, "key", aSeed)))

	for _, message := range []func() []byte{
		func() []byte { return auth.Service("name") },
		func() []byte { return auth.Accept("name") },
		func() []byte { return auth.None("name") },
		func() []byte { return auth.Password("name", "pass") },
		func() []byte { return auth.Ask("name", "key") },
	} {
		p := message()
		keep := string(p)
		clear(p[:cap(p)])
		isBytes(t, "a message anew", message(), keep)
	}
}
