package tunnel_test

import (
	"math"
	"strings"
	"testing"

	"tabulary/api"
	"tabulary/tunnel"
)

// P11.1: plans that may be, at their edges.
func TestPlansThatMayBe(t *testing.T) {
	long := strings.Repeat("x", 100000)
	for i, p := range []tunnel.Plan{
		{},
		{Draw: strings.Repeat("d", 64)},
		{Host: seedOf("x")},
		{Seed: seedOf("x")},
		{Host: seedOf("\x00"), Seed: seedOf("\xff"), User: long, Pass: long},
		{Tries: -1, Users: []api.User{{Key: "short"}}},
		{Server: true, Host: seedOf("x"), Tries: 1},
		{Server: true, Host: seedOf("x"), Tries: math.MaxInt, Draw: strings.Repeat("\x00", 64)},
		{Server: true, Host: seedOf("x"), Tries: 1, User: long, Pass: long, Seed: long, Users: []api.User{{}, {Key: "short"}}},
	} {
		s, e := tunnel.New(p)
		if e != api.OK || s == nil || s.Stage() != tunnel.Lines || s.Why() != api.OK || s.User() != "" || s.Ready() || s.Shut() {
			t.Errorf("plan %d: %d", i, e)
			continue
		}
		if out := string(s.Out()); out != "SSH-2.0-tabulary\r\n" {
			t.Errorf("plan %d: %q goes out", i, out)
		}
		if len(s.Out()) > 0 || len(s.Recv()) > 0 {
			t.Errorf("plan %d: something is left", i)
		}
	}
}

// P11.1: plans that may not be.
func TestPlansThatMayNotBe(t *testing.T) {
	for i, p := range []tunnel.Plan{
		{Draw: strings.Repeat("d", 65)},
		{Draw: strings.Repeat("d", 100000)},
		{Host: "x"},
		{Host: seedOf("x")[1:]},
		{Host: seedOf("x") + "x"},
		{Host: seedOf("x") + seedOf("x")},
		{Seed: "x"},
		{Seed: seedOf("x")[1:]},
		{Seed: seedOf("x") + "x"},
		{Server: true, Tries: 1},
		{Server: true, Tries: 1, Host: seedOf("x")[1:]},
		{Server: true, Tries: 1, Host: seedOf("x") + "x"},
		{Server: true, Host: seedOf("x")},
		{Server: true, Host: seedOf("x"), Tries: -1},
		{Server: true, Host: seedOf("x"), Tries: math.MinInt},
		{Server: true, Host: seedOf("x"), Tries: 1, Draw: strings.Repeat("d", 65)},
	} {
		if s, e := tunnel.New(p); e != api.ErrArg || s != nil {
			t.Errorf("plan %d: %v, %d", i, s, e)
		}
	}
}

// Rule 4: users that are handed in may be changed behind New.
func TestUsersArentKept(t *testing.T) {
	mine := []api.User{{Name: "ann", Password: "a password", Groups: []string{"g"}}}
	plan := serverPlan
	plan.Users = mine
	p := atAsk(t, plan)
	mine[0] = api.User{Name: "eve", Password: "hers"}
	p.swap()
	p.say(service, password("eve", "hers"))
	p.wants(accept, failure)
	p.say(password("ann", "a password"))
	p.wants(success)
}

// Rule 7: of a nil pointer.
func TestNil(t *testing.T) {
	var s *tunnel.Side
	s.Feed([]byte("SSH-2.0-x\r\n"))
	s.Feed(nil)
	s.Break()
	if s.Out() != nil || s.Recv() != nil || s.User() != "" || s.Ready() {
		t.Error("a nil side has something")
	}
	if s.Stage() != tunnel.Over || s.Why() != api.ErrArg || !s.Shut() {
		t.Error("a nil side isn't over")
	}
	if s.Send([]byte("x")) != api.ErrState || s.Send(nil) != api.ErrState || s.Leave() != api.ErrState || s.Rekey() != api.ErrState {
		t.Error("a nil side does something")
	}
}
