package auth_test

import (
	"bytes"
	"crypto/ed25519"
	"encoding/binary"
	"math/rand"
	"strings"
	"testing"

	"tabulary/api"
	"tabulary/auth"
)

// What the package should answer, reckoned apart from it, as the chapter's words
// have it, by Go's library.

// someText answers a text of n bytes of any kind.
func someText(rnd *rand.Rand, n int) string {
	b := make([]byte, n)
	rnd.Read(b)
	return string(b)
}

// text answers the length of s and its bytes.
func text(s string) string {
	return string(binary.BigEndian.AppendUint32(nil, uint32(len(s)))) + s
}

// told answers a key or a signature as it is told.
func told(s string) string {
	return text("ssh-ed25519") + text(s)
}

// req answers a request for a service, and what stands behind its method.
func req(user, service, method, behind string) []byte {
	return []byte("\x32" + text(user) + text(service) + text(method) + behind)
}

// conn answers a request for the service that there is.
func conn(user, method, behind string) []byte {
	return req(user, "ssh-connection", method, behind)
}

// byPassword answers a request by a password, with a flag of any byte.
func byPassword(user, flag, pass string) []byte {
	return conn(user, "password", flag+text(pass))
}

// byKey answers a request by a key, with a flag of any byte, any name of an
// algorithm, any blob, and what stands behind it.
func byKey(user, flag, algorithm, blob, behind string) []byte {
	return conn(user, "publickey", flag+text(algorithm)+text(blob)+behind)
}

// seedOf answers a seed.
func seedOf(c string) string {
	return strings.Repeat(c, 32)
}

// pubOf answers a seed's public key.
func pubOf(seed string) string {
	return string(ed25519.NewKeyFromSeed([]byte(seed)).Public().(ed25519.PublicKey))
}

// sigOf answers a seed's signature of a text.
func sigOf(seed, s string) string {
	return string(ed25519.Sign(ed25519.NewKeyFromSeed([]byte(seed)), []byte(s)))
}

// signed answers what is signed of a request by a key.
func signed(session, user, pub string) string {
	return text(session) + string(byKey(user, "\x01", "ssh-ed25519", told(pub), ""))
}

// proof answers a request by a seed's key, signed.
func proof(session, user, seed string) []byte {
	pub := pubOf(seed)
	sig := told(sigOf(seed, signed(session, user, pub)))
	return byKey(user, "\x01", "ssh-ed25519", told(pub), text(sig))
}

// What a gate may answer.
var (
	accepts  = "\x06" + text("ssh-userauth")
	fails    = "\x33" + text("publickey,password") + "\x00"
	succeeds = "\x34"
)

// fits answers what is said of a key that would do.
func fits(pub string) string {
	return "\x3C" + text("ssh-ed25519") + text(told(pub))
}

// isBytes fails the test if got isn't want.
func isBytes(t *testing.T, what string, got []byte, want string) {
	t.Helper()
	if string(got) != want {
		t.Errorf("%s: %q, want %q", what, got, want)
	}
}

// takes fails the test if a gate doesn't answer want to p, and without an error.
func takes(t *testing.T, g *auth.Gate, p []byte, want string) {
	t.Helper()
	keep := bytes.Clone(p)
	got, e := g.Take(p)
	if e != api.OK || string(got) != want {
		t.Errorf("Take(%q): %q, %d, want %q", p, got, e, want)
	}
	if !bytes.Equal(p, keep) {
		t.Errorf("Take changed %q to %q", keep, p)
	}
}

// errs fails the test if a gate doesn't answer an error alone to p.
func errs(t *testing.T, g *auth.Gate, p []byte, want api.Errno) {
	t.Helper()
	if got, e := g.Take(p); e != want || len(got) != 0 {
		t.Errorf("Take(%q): %q, %d, want error %d", p, got, e, want)
	}
}

// isUser fails the test if somebody else is in.
func isUser(t *testing.T, g *auth.Gate, want string) {
	t.Helper()
	if got := g.User(); got != want {
		t.Errorf("User: %q, want %q", got, want)
	}
}

// A gate's users: by password, by key, by both, by neither.
var (
	aSeed, bSeed = seedOf("a"), seedOf("b")

	users = []api.User{
		{Name: "pass", Password: "secret"},
		{Name: "key", Key: pubOf(aSeed)},
		{Name: "both", Password: "other secret", Key: pubOf(bSeed), Groups: []string{"g"}},
		{Name: "none"},
	}
)

const session = "the session"

// shut answers a gate for these users that wasn't asked for the service yet.
func shut(tries int) *auth.Gate {
	return auth.New(users, []byte(session), tries)
}

// open answers a gate that hears requests.
func open(t *testing.T, tries int) *auth.Gate {
	t.Helper()
	g := shut(tries)
	takes(t, g, auth.Service("ssh-userauth"), accepts)
	return g
}
