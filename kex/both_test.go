package kex_test

import (
	"math/rand"
	"testing"

	"tabulary/api"
	"tabulary/kex"
	"tabulary/ladder"
	"tabulary/packet"
	"tabulary/twist"
)

// share answers a secret's public share.
func share(t *testing.T, secret []byte) string {
	t.Helper()
	b, e := ladder.Public(secret)
	if e != api.OK {
		t.Fatal(e)
	}
	return string(b)
}

// shared answers what a secret shares with a peer's share.
func shared(t *testing.T, secret []byte, peer string) []byte {
	t.Helper()
	b, e := ladder.Shared(secret, []byte(peer))
	if e != api.OK {
		t.Fatal(e)
	}
	return b
}

// carries fails the test if what is written under one side's keys isn't read
// under the other's.
func carries(t *testing.T, from, to packet.Keys) {
	t.Helper()
	var w packet.Writer
	var r packet.Reader
	if w.Take(from) != api.OK || r.Take(to) != api.OK {
		t.Fatal("the keys aren't taken")
	}
	b, e := w.Write([]byte("text"), "draw")
	r.Feed(b)
	if got, f := r.Next(); e != api.OK || f != api.OK || string(got) != "text" {
		t.Errorf("Write: %d; Next: %q, %d", e, got, f)
	}
}

// P8.2: two sides, each of which knows its own secret and what the other one
// said, come to the same keys; the client takes the reply.
func TestBothSides(t *testing.T) {
	rnd := rand.New(rand.NewSource(14))
	for range 10 {
		seed, mine, theirs := someText(rnd, 32), someBytes(rnd, 32), someBytes(rnd, 32)
		pub, _ := twist.Public([]byte(seed))
		client := kex.Talk{
			Lines: [2]string{"SSH-2.0-client", "SSH-2.0-server"},
			Inits: [2][]byte{kex.Init(kex.Own(), "c"), kex.Init(kex.Own(), "s")},
		}
		server := client
		client.Shares[0] = share(t, mine)

		server.Shares[0] = kex.ReadAsk(kex.Ask(client.Shares[0]))
		server.Host, server.Shares[1] = kex.Blob(string(pub)), share(t, theirs)
		server.Shared = shared(t, theirs, server.Shares[0])
		p, e := kex.Reply(server, seed)
		host, peer, sig, ok := kex.ReadReply(p)
		if e != api.OK || !ok {
			t.Fatalf("Reply: %d; ReadReply: %t", e, ok)
		}

		client.Host, client.Shares[1], client.Shared = host, peer, shared(t, mine, peer)
		if kex.ReadBlob(host) != string(pub) || !twist.Verify(pub, kex.Hash(client), sig) {
			t.Error("the client doesn't take the reply")
		}
		ours, others := kex.Keys(client, kex.Hash(client)), kex.Keys(server, kex.Hash(server))
		isKeys(t, "both sides' keys", ours, others)
		carries(t, ours[0], others[0])
		carries(t, others[1], ours[1])
	}
}
