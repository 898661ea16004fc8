package auth_test

import (
	"bytes"
	"crypto/ed25519"
	"math/rand"
	"testing"

	"tabulary/api"
	"tabulary/auth"
)

// A step is a request whose parts are known, told as the chapter has it.
type step struct {
	user, service, method string
	flag                  byte
	pass                  string
	algorithm, key        string
	sig                   string // none, if the flag isn't set
	more                  string // what stands behind, where nothing should
}

// payload answers a step's bytes.
func (s step) payload() []byte {
	behind := s.more
	switch s.method {
	case "password":
		behind = string([]byte{s.flag}) + text(s.pass) + s.more
	case "publickey":
		behind = string([]byte{s.flag}) + text(s.algorithm) + text(told(s.key))
		if s.flag != 0 {
			behind += text(s.sig)
		}
		behind += s.more
	}
	return req(s.user, s.service, s.method, behind)
}

// someStep answers a step that is often right in most of its parts.
func someStep(rnd *rand.Rand) step {
	one := func(l ...string) string { return l[rnd.Intn(len(l))] }
	s := step{
		user:      one("pass", "key", "both", "none", "nobody", ""),
		service:   one("ssh-connection", "ssh-connection", "ssh-connection", "ssh-connection", "ssh-connection", "x"),
		method:    one("none", "password", "password", "publickey", "publickey", "hostbased"),
		pass:      one("secret", "other secret", "", "x"),
		algorithm: one("ssh-ed25519", "ssh-ed25519", "ssh-ed25519", "ssh-rsa"),
		key:       one(pubOf(aSeed), pubOf(bSeed), ""),
		more:      one("", "", "", "", "", "", "x"),
	}
	if rnd.Intn(3) == 0 || s.method == "publickey" && rnd.Intn(2) == 0 {
		s.flag = []byte{1, 1, 2, 255}[rnd.Intn(4)]
	}
	seed := one(aSeed, bSeed)
	if rnd.Intn(3) > 0 {
		s.key = pubOf(seed)
	}
	s.sig = told(sigOf(seed, signed(one(session, session, session, "x"), s.user, s.key)))
	if rnd.Intn(6) == 0 {
		s.sig = one("", "x", told(""))
	}
	return s
}

// A model is what a gate should know.
type model struct {
	heard, in bool
	user      string
	tries     int
}

// take answers what a gate should answer to a step.
func (m *model) take(s step) (string, api.Errno) {
	known := s.method == "none" || s.method == "password" || s.method == "publickey"
	switch {
	case m.in:
		return "", api.ErrState
	case !m.heard, s.service != "ssh-connection", known && s.more != "", s.method == "password" && s.flag != 0:
		return "", api.ErrForm
	}
	var u api.User
	for i := len(users) - 1; i >= 0; i-- {
		if users[i].Name == s.user {
			u = users[i]
		}
	}
	theirs := s.method == "publickey" && s.algorithm == "ssh-ed25519" && u.Key != "" && s.key == u.Key
	right := s.method == "password" && u.Password != "" && s.pass == u.Password
	if theirs && s.flag != 0 && len(s.sig) == len(told(""))+64 {
		right = ed25519.Verify([]byte(u.Key), []byte(signed(session, s.user, u.Key)), []byte(s.sig[len(told("")):]))
	}
	switch {
	case right:
		m.in, m.user = true, u.Name
		return succeeds, api.OK
	case theirs && s.flag == 0:
		return fits(u.Key), api.OK
	}
	if s.method != "none" {
		m.tries--
	}
	if m.tries <= 0 {
		return "", api.ErrOver
	}
	return fails, api.OK
}

// P9.1, P9.2: gates to whom people say what they like, in any order, step by
// step against what should come of it.
func TestAnyOrder(t *testing.T) {
	rnd := rand.New(rand.NewSource(2))
	came := map[string]int{}
	for range 600 {
		tries := rnd.Intn(12) - 1
		g, m := shut(tries), model{tries: max(tries, 1)}
		for range 12 {
			if rnd.Intn(3) == 0 && !m.in {
				takes(t, g, auth.Service("ssh-userauth"), accepts)
				m.heard = true
			}
			s := someStep(rnd)
			want, wanted := m.take(s)
			got, e := g.Take(s.payload())
			if e != wanted || string(got) != want || g.User() != m.user {
				t.Fatalf("%+v: %q, %d, %q is in; want %q, %d, %q", s, got, e, g.User(), want, wanted, m.user)
			}
			came[e.Error()+want]++
		}
	}
	if len(came) != 7 { // three errors; refused, let in, and each of two keys that fit
		t.Errorf("the test's own steps came to %d answers: %v", len(came), came)
	}
	for what, n := range came {
		if n < 10 {
			t.Errorf("the test's own steps: %q came %d times", what, n)
		}
	}
}

// P0, P9.2: payloads of any bytes, and right ones of which a few are others:
// nobody is in but by what is theirs.
func TestAnyBytes(t *testing.T) {
	rnd := rand.New(rand.NewSource(3))
	right := [][]byte{
		auth.Service("ssh-userauth"),
		auth.None("pass"),
		auth.Password("pass", "secret"),
		auth.Ask("key", pubOf(aSeed)),
		proof(session, "key", aSeed),
		conn("pass", "hostbased", text("x")),
	}
	wins := [][]byte{right[2], right[4]}
	g := open(t, 1<<30)
	for i := range 20000 {
		p := bytes.Clone(right[i%len(right)])
		if rnd.Intn(8) == 0 {
			p = []byte(someText(rnd, rnd.Intn(150)))
		}
		for range rnd.Intn(3) {
			if len(p) > 0 {
				p[rnd.Intn(len(p))] = byte(rnd.Intn(256))
			}
		}
		p = p[:len(p)-rnd.Intn(len(p)+1)*rnd.Intn(2)]
		keep := bytes.Clone(p)
		got, e := g.Take(p)
		if !bytes.Equal(p, keep) {
			t.Fatalf("Take changed %q to %q", keep, p)
		}
		if e != api.OK && (len(got) != 0 || e != api.ErrForm) {
			t.Fatalf("Take(%q): %q, %d", p, got, e)
		}
		if string(got) != succeeds {
			continue
		}
		flagged := bytes.Clone(p) // a flag that is set may be any byte
		if at := len(conn("key", "publickey", "")); len(p) == len(wins[1]) && p[at] != 0 {
			flagged[at] = 1
		}
		if !bytes.Equal(p, wins[0]) && !bytes.Equal(flagged, wins[1]) {
			t.Fatalf("somebody is in by %q", p)
		}
		g = open(t, 1<<30)
	}
}
