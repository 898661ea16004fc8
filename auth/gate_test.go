package auth_test

import (
	"math"
	"slices"
	"strings"
	"testing"

	"tabulary/api"
	"tabulary/auth"
)

// P9.1: ahead of the service nothing is heard, whatever it is; the service may
// be wished for again.
func TestService(t *testing.T) {
	g := shut(1)
	isUser(t, g, "")
	for range 2 {
		for _, p := range [][]byte{
			auth.Password("pass", "secret"),
			auth.Password("pass", "wrong"),
			auth.None("pass"),
			auth.Ask("key", pubOf(aSeed)),
			proof(session, "key", aSeed),
			conn("pass", "x", "y"),
			auth.Accept("ssh-userauth"),
			nil,
		} {
			errs(t, g, p, api.ErrForm)
		}
	}
	takes(t, g, auth.Service("ssh-userauth"), accepts)
	takes(t, g, auth.Service("ssh-userauth"), accepts)
	takes(t, g, auth.None("pass"), fails)
	takes(t, g, auth.Service("ssh-userauth"), accepts)
	isUser(t, g, "")
	takes(t, g, auth.Password("pass", "secret"), succeeds)
	isUser(t, g, "pass")
}

// P9.1: a wish for another service, or one that isn't just that, opens nothing.
func TestOtherServices(t *testing.T) {
	whole := auth.Service("ssh-userauth")
	g := shut(1)
	for _, p := range [][]byte{
		auth.Service(""),
		auth.Service("ssh-connection"),
		auth.Service("ssh-userauth2"),
		auth.Service("ssh-useraut"),
		auth.Service("SSH-USERAUTH"),
		append(auth.Service("ssh-userauth"), 0),
		append([]byte{0}, whole...),
		whole[1:],
	} {
		errs(t, g, p, api.ErrForm)
	}
	for n := range whole {
		errs(t, g, whole[:n], api.ErrForm)
		for bit := range 8 {
			other := slices.Clone(whole)
			other[n] ^= 1 << bit
			errs(t, g, other, api.ErrForm)
		}
	}
	for message := range 256 {
		if message != auth.MsgService {
			errs(t, g, append([]byte{byte(message)}, whole[1:]...), api.ErrForm)
		}
	}
	errs(t, g, auth.Password("pass", "secret"), api.ErrForm)
	isUser(t, g, "")
}

// P9.2: who has their password, or their key, comes in, at once or behind other
// requests; once somebody is in, nothing is heard.
func TestComesIn(t *testing.T) {
	for _, c := range []struct {
		user string
		p    []byte
	}{
		{"pass", auth.Password("pass", "secret")},
		{"both", auth.Password("both", "other secret")},
		{"key", proof(session, "key", aSeed)},
		{"both", proof(session, "both", bSeed)},
	} {
		for _, wrong := range [][][]byte{
			{},
			{auth.None("key"), auth.None("nobody"), auth.None("pass")},
			{auth.Password("pass", "secre"), auth.Password("both", "secret")},
			{proof(session, "pass", aSeed), proof(session, "none", bSeed)},
		} {
			g := open(t, 3)
			for _, p := range wrong {
				takes(t, g, p, fails)
				isUser(t, g, "")
			}
			takes(t, g, c.p, succeeds)
			isUser(t, g, c.user)
			for _, p := range [][]byte{c.p, auth.None("x"), auth.Service("ssh-userauth"), auth.Password("pass", "wrong"), nil} {
				errs(t, g, p, api.ErrState)
			}
			isUser(t, g, c.user)
		}
	}
}

// P9.1: what a seed proves itself is taken.
func TestProveIsTaken(t *testing.T) {
	for user, seed := range map[string]string{"key": aSeed, "both": bSeed} {
		p, e := auth.Prove([]byte(session), user, seed)
		if e != api.OK {
			t.Fatal(e)
		}
		g := open(t, 1)
		takes(t, g, auth.Ask(user, pubOf(seed)), fits(pubOf(seed)))
		takes(t, g, p, succeeds)
		isUser(t, g, user)
	}
}

// P9.1: each failing try counts, the last one is ErrOver; below 1 counts as 1.
func TestTries(t *testing.T) {
	wrong := [][]byte{
		auth.Password("pass", "wrong"),
		auth.Password("nobody", "secret"),
		auth.Password("none", ""),
		auth.Ask("key", pubOf(bSeed)),
		proof("another session", "key", aSeed),
		conn("pass", "keyboard-interactive", text("")+text("")),
		conn("pass", "", ""),
	}
	for _, tries := range []int{math.MinInt, -1, 0, 1, 2, 3, 10} {
		for _, p := range wrong {
			g := open(t, tries)
			for range max(tries, 1) - 1 {
				takes(t, g, p, fails)
			}
			errs(t, g, p, api.ErrOver)
			isUser(t, g, "")
		}
		g := open(t, tries)
		for i := range max(tries, 1) - 1 {
			takes(t, g, wrong[i%len(wrong)], fails)
		}
		takes(t, g, auth.Password("pass", "secret"), succeeds) // the last try is one
	}
	g := open(t, math.MaxInt)
	for range 1000 {
		takes(t, g, wrong[0], fails)
	}
}

// P9.1: requests by nothing, questions for a key that is theirs, the service and
// what says nothing cost no try.
func TestWhatCostsNoTry(t *testing.T) {
	g := open(t, 1)
	for range 5 {
		takes(t, g, auth.None("pass"), fails)
		takes(t, g, auth.None("nobody"), fails)
		takes(t, g, auth.Ask("key", pubOf(aSeed)), fits(pubOf(aSeed)))
		takes(t, g, auth.Service("ssh-userauth"), accepts)
		errs(t, g, auth.Service("ssh-connection"), api.ErrForm)
		errs(t, g, byPassword("pass", "\x01", "secret"), api.ErrForm)
		errs(t, g, req("pass", "x", "password", "\x00"+text("secret")), api.ErrForm)
		errs(t, g, nil, api.ErrForm)
	}
	takes(t, g, auth.Password("pass", "secret"), succeeds)
}

// P9.1: once no tries are left each failing request is ErrOver, one by nothing
// too; what isn't a failing request is answered as ever.
func TestNoTriesLeft(t *testing.T) {
	g := open(t, 1)
	errs(t, g, auth.Password("pass", "wrong"), api.ErrOver)
	for range 3 {
		errs(t, g, auth.None("pass"), api.ErrOver)
		errs(t, g, auth.Password("nobody", "x"), api.ErrOver)
		errs(t, g, auth.Ask("key", pubOf(bSeed)), api.ErrOver)
		errs(t, g, conn("pass", "x", ""), api.ErrOver)
		errs(t, g, nil, api.ErrForm)
		takes(t, g, auth.Ask("key", pubOf(aSeed)), fits(pubOf(aSeed)))
		takes(t, g, auth.Service("ssh-userauth"), accepts)
		isUser(t, g, "")
	}
}

// P9.1: the user is the first one of that name, and no other one.
func TestFirstOfAName(t *testing.T) {
	g := auth.New([]api.User{
		{Name: "a", Password: "first"},
		{Name: "b", Key: pubOf(bSeed)},
		{Name: "a", Password: "second", Key: pubOf(aSeed)},
		{Name: "b", Password: "third"},
	}, []byte(session), 100)
	takes(t, g, auth.Service("ssh-userauth"), accepts)
	takes(t, g, auth.Password("a", "second"), fails)
	takes(t, g, auth.Ask("a", pubOf(aSeed)), fails)
	takes(t, g, proof(session, "a", aSeed), fails)
	takes(t, g, auth.Password("b", "third"), fails)
	takes(t, g, auth.Password("A", "first"), fails)
	takes(t, g, auth.Password("a ", "first"), fails)
	takes(t, g, auth.Password("", "first"), fails)
	takes(t, g, auth.Ask("b", pubOf(bSeed)), fits(pubOf(bSeed)))
	takes(t, g, auth.Password("a", "first"), succeeds)
	isUser(t, g, "a")
}

// P9.2: nobody comes in by a password or a key of nothing.
func TestNeitherPasswordNorKey(t *testing.T) {
	g := open(t, 100)
	for _, user := range []string{"none", "key", "nobody", ""} {
		takes(t, g, auth.Password(user, ""), fails)
	}
	for _, user := range []string{"none", "pass", "nobody", ""} {
		takes(t, g, auth.Ask(user, ""), fails)
		takes(t, g, byKey(user, "\x00", "ssh-ed25519", "", ""), fails)
		takes(t, g, byKey(user, "\x00", "", "", ""), fails)
		takes(t, g, byKey(user, "\x01", "ssh-ed25519", told(""), text("")), fails)
		takes(t, g, byKey(user, "\x01", "ssh-ed25519", told(""), text(told(strings.Repeat("\x00", 64)))), fails)
	}
	isUser(t, g, "")
}

// P9.1: a user whose name is "" comes in, too: then somebody is in.
func TestNameOfNothing(t *testing.T) {
	g := auth.New([]api.User{{Password: "x"}}, nil, 1)
	takes(t, g, auth.Service("ssh-userauth"), accepts)
	takes(t, g, auth.Password("", "x"), succeeds)
	isUser(t, g, "")
	errs(t, g, auth.Password("", "x"), api.ErrState)
	errs(t, g, nil, api.ErrState)
}

// P9.1: gates of no users, and no session.
func TestGateOfNothing(t *testing.T) {
	g := auth.New(nil, nil, 2)
	takes(t, g, auth.Service("ssh-userauth"), accepts)
	takes(t, g, auth.Password("", ""), fails)
	errs(t, g, auth.Password("a", "x"), api.ErrOver)

	g = auth.New(users, nil, 1)
	takes(t, g, auth.Service("ssh-userauth"), accepts)
	takes(t, g, proof("", "key", aSeed), succeeds)
	isUser(t, g, "key")
}

// P9.1: a gate that is nil.
func TestNil(t *testing.T) {
	var g *auth.Gate
	isUser(t, g, "")
	for _, p := range [][]byte{nil, auth.Service("ssh-userauth"), auth.Password("pass", "secret")} {
		errs(t, g, p, api.ErrState)
	}
	isUser(t, g, "")
}

// P9.1: a gate keeps nothing of what was handed in, and what it answers is new
// memory.
func TestGateShares(t *testing.T) {
	mine := []api.User{{Name: "a", Password: "x", Groups: []string{"g"}}, {Name: "b", Key: pubOf(bSeed)}}
	room := []byte(session)
	g := auth.New(mine, room, 10)
	mine[0], mine[1] = api.User{Name: "c", Password: "y"}, api.User{}
	clear(room)
	p, e := g.Take(auth.Service("ssh-userauth"))
	if e != api.OK {
		t.Fatal(e)
	}
	clear(p[:cap(p)])
	takes(t, g, auth.Service("ssh-userauth"), accepts)
	for range 2 {
		for _, asked := range [][]byte{auth.None("a"), auth.Password("c", "y"), auth.Ask("b", pubOf(bSeed))} {
			p, e := g.Take(asked)
			if e != api.OK || len(p) == 0 {
				t.Fatal(p, e)
			}
			clear(p[:cap(p)])
		}
	}
	takes(t, g, auth.Password("c", "y"), fails)
	takes(t, g, auth.Ask("b", pubOf(bSeed)), fits(pubOf(bSeed)))
	asked := proof(session, "b", bSeed)
	takes(t, g, asked, succeeds)
	clear(asked)
	isUser(t, g, "b")
}

// P9.1: gates know nothing of each other.
func TestTwoGates(t *testing.T) {
	g, other := shut(1), shut(1)
	takes(t, g, auth.Service("ssh-userauth"), accepts)
	errs(t, other, auth.Password("pass", "secret"), api.ErrForm)
	errs(t, g, auth.Password("pass", "wrong"), api.ErrOver)
	takes(t, other, auth.Service("ssh-userauth"), accepts)
	takes(t, other, auth.None("pass"), fails)
	takes(t, other, auth.Password("pass", "secret"), succeeds)
	isUser(t, g, "")
	isUser(t, other, "pass")
}
