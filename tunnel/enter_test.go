package tunnel_test

import (
	"strings"
	"testing"

	"tabulary/api"
	"tabulary/tunnel"
)

// P11.1: a client is let in by its password, or, with a seed, by its key alone.
func TestHowAClientAsks(t *testing.T) {
	both := clientPlan
	both.Seed = userSeed
	for _, plan := range []tunnel.Plan{clientPlan, keyPlan, both, {}, {User: "x"}, {Pass: "y"}} {
		p := atAuth(t, plan)
		p.say(accept)
		p.wants(p.request())
		p.is(tunnel.Auth, api.OK)
		p.say(success)
		p.wants(wish)
		p.is(tunnel.Chan, api.OK)
		if p.side.User() != "" || p.side.Ready() || p.side.Shut() {
			t.Fatal("a client has let somebody in, or is ready")
		}
	}
}

// P11.1: a server lets users in by their password or key, and tells whom.
func TestWhomAServerLetsIn(t *testing.T) {
	for i, user := range []string{"ann", "bob", ""} {
		p := atAuth(t, serverPlan)
		p.say(service)
		p.wants(accept)
		if p.side.User() != "" {
			t.Fatal("somebody is in ahead of it")
		}
		p.say([]string{password("ann", "a password"), proof(p.session, "bob", userSeed), password("", "nobody's")}[i])
		p.wants(success)
		p.is(tunnel.Chan, api.OK)
		if p.side.User() != user || p.side.Ready() || p.side.Shut() {
			t.Fatalf("%q is in, want %q", p.side.User(), user)
		}
		p.side.Break()
		if p.side.User() != user {
			t.Fatalf("%q was let in, want %q", p.side.User(), user)
		}
	}
}

// P11.1: a server goes on behind requests that fail, as long as there are tries.
func TestTriesThatAreLeft(t *testing.T) {
	plan := serverPlan
	plan.Tries = 4
	p := atAuth(t, plan)
	p.say(service, password("ann", "x"), password("eve", "a password"), password("ann", ""))
	p.wants(accept, failure, failure, failure)
	p.is(tunnel.Auth, api.OK)
	p.say(password("ann", "a password"))
	p.wants(success)
	p.is(tunnel.Chan, api.OK)
}

// P11.1, errors: a server's gate that has no tries left, or hears something else;
// nobody is let in.
func TestGatesErrors(t *testing.T) {
	ask := "\x32" + text("x") + text("ssh-connection")
	for _, c := range []struct {
		says string
		e    api.Errno
	}{
		{password("ann", "x"), api.ErrOver},
		{password("", ""), api.ErrOver},
		{proof("another session", "bob", userSeed), api.ErrOver},
		{proof("another session", "ann", seedOf("e")), api.ErrOver},
		{"\x32" + text("ann") + text("ssh-userauth") + text("none"), api.ErrForm},
		{ask + text("password") + "\x01" + text("x"), api.ErrForm},
		{"\x05" + text("ssh-connection"), api.ErrForm},
		{wish, api.ErrForm},
		{data("x"), api.ErrForm},
		{global("x", "\x01"), api.ErrForm},
		{"\x03" + u32(1), api.ErrForm},
		{success, api.ErrForm},
		{failure, api.ErrForm},
	} {
		plan := serverPlan
		plan.Tries = 1
		p := atAuth(t, plan)
		p.say(service)
		p.wants(accept)
		p.say(c.says)
		p.ends(c.e)
		if p.side.User() != "" {
			t.Errorf("%q lets in %q", c.says, p.side.User())
		}
	}
	p := atAuth(t, serverPlan)
	p.say(password("ann", "a password"))
	p.ends(api.ErrForm)
}

// P11.1: tries are those of the plan.
func TestTries(t *testing.T) {
	for tries := 1; tries < 5; tries++ {
		plan := serverPlan
		plan.Tries = tries
		p := atAuth(t, plan)
		p.say(service)
		p.wants(accept)
		for range tries - 1 {
			p.say(password("ann", "x"))
			p.wants(failure)
		}
		p.say(password("ann", "x"))
		p.ends(api.ErrOver)
	}
}

// P11.1: what a key would do is asked for of a server, too.
func TestQuestionForAKey(t *testing.T) {
	p := atAuth(t, serverPlan)
	p.say(service)
	p.wants(accept)
	p.say("\x32" + text("bob") + text("ssh-connection") + text("publickey") + "\x00" + text("ssh-ed25519") + text(told(pubOf(userSeed))))
	p.wants("\x3c" + text("ssh-ed25519") + text(told(pubOf(userSeed))))
	p.is(tunnel.Auth, api.OK)
	p.say(proof(p.session, "bob", userSeed))
	p.wants(success)
}

// P11.1, errors: a client that isn't let in.
func TestAClientThatIsntLetIn(t *testing.T) {
	for _, plan := range []tunnel.Plan{clientPlan, keyPlan} {
		for _, no := range []string{failure, "\x33" + text("") + "\x01"} {
			p := atAuth(t, plan)
			p.say(accept)
			p.wants(p.request())
			p.say(no)
			p.ends(api.ErrAgree)
			p = atAuth(t, plan)
			p.say(no)
			p.ends(api.ErrAgree)
		}
	}
}

// Errors: answers that are none.
func TestNoAnswers(t *testing.T) {
	for _, s := range []string{
		"\x06", "\x06" + text("ssh-connection"), accept + "\x00", "\x06" + text(""), service,
		success, "\x35" + text("a banner") + text(""), "\x3c", wish, confirm, data("x"), global("x", "\x01"), "\x00",
	} {
		p := atAuth(t, clientPlan)
		p.say(s)
		p.ends(api.ErrForm)
	}
	for _, s := range []string{
		accept, success + "\x00", "\x35" + text("a banner") + text(""), "\x3c" + text("ssh-ed25519") + text(told(pubOf(userSeed))),
		wish, confirm, data("x"), global("x", "\x01"), "\x00",
	} {
		p := atAuth(t, clientPlan)
		p.say(accept)
		p.wants(p.request())
		p.say(s)
		p.ends(api.ErrForm)
	}
}

// P11.3: ahead of being let in neither side receives anything, whatever is said,
// nor may anything be sent or closed.
func TestNothingIsReceivedAheadOfIt(t *testing.T) {
	for _, at := range everyStage[:4] {
		for _, plan := range bothPlans {
			for i := range 3 {
				p := at(t, plan)
				p.gather()
				p.wire = ""
				if p.side.Ready() || p.side.Shut() || p.side.Send(nil) != api.ErrState || p.side.Send([]byte("x")) != api.ErrState || p.side.Leave() != api.ErrState {
					t.Errorf("stage %d: something may be done", p.side.Stage())
				}
				p.wants()
				stage := p.side.Stage()
				for _, s := range [][]string{{data("x")}, {wish, netconf, data("x")}, {confirm, runs, data("x")}}[i] {
					p.say(s)
				}
				if stage == tunnel.Lines {
					p.pour(strings.Repeat("x", 200), 200)
				}
				if b := p.side.Recv(); len(b) > 0 {
					t.Errorf("stage %d: %q is received", stage, b)
				}
				p.is(tunnel.Over, api.ErrForm)
				if p.side.Recv() != nil || p.side.User() != "" {
					t.Errorf("stage %d: somebody is in", stage)
				}
			}
		}
	}
}

// Errors: requests and answers that are longer than a packet's payload may be.
func TestTooLongForAPacket(t *testing.T) {
	plan := clientPlan
	plan.Pass = ""
	most := strings.Repeat("x", 2048-len(password(plan.User, "")))
	plan.Pass = most
	p := atAuth(t, plan)
	p.say(accept)
	p.wants(p.request())

	for _, pass := range []string{most + "x", strings.Repeat("x", 100000)} {
		plan.Pass = pass
		p = atAuth(t, plan)
		p.say(accept)
		p.ends(api.ErrLen)
	}
	plan = keyPlan
	plan.User = strings.Repeat("x", 2000)
	p = atAuth(t, plan)
	p.say(accept)
	p.ends(api.ErrLen)

	// A question may be longer than what may be answered.
	plan = serverPlan
	blob := strings.Repeat("k", 2100)
	plan.Users = []api.User{{Name: "", Key: blob}}
	p = atAuth(t, plan)
	p.say(service)
	p.wants(accept)
	p.say("\x32" + text("") + text("ssh-connection") + text("publickey") + "\x00" + text("ssh-ed25519") + text(told(blob)))
	p.ends(api.ErrLen)
}
