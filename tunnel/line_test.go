package tunnel_test

import (
	"strings"
	"testing"

	"tabulary/api"
	"tabulary/tunnel"
)

// P11.1: lines, with and without a 0D ahead of their end; each is the talk's, as
// the keys tell.
func TestLines(t *testing.T) {
	for _, line := range []string{"SSH-2.0-", "SSH-2.0-x", "SSH-2.0- ~", "SSH-2.0-" + strings.Repeat("x", 92)} {
		for _, end := range []string{"\n", "\r\n"} {
			for _, plan := range bothPlans {
				p := newPeer(t, plan)
				p.spell(line + end)
				p.talk.lines[p.own()] = line
				p.wantsOffer()
				p.wants()
				p.is(tunnel.Keys, api.OK)
				p.offers()
				p.swap()
				p.is(tunnel.Auth, api.OK)
			}
		}
	}
}

// spell reads the side's line, and says the bytes of another one, one by one.
func (p *peer) spell(s string) {
	p.t.Helper()
	p.cutLine()
	for i := range len(s) {
		p.is(tunnel.Lines, api.OK)
		p.wants()
		p.side.Feed([]byte{s[i]})
	}
}

// cutLine reads the side's line.
func (p *peer) cutLine() {
	p.gather()
	p.cut(len(ownLine) + 2)
	p.talk.lines[1-p.own()] = ownLine
}

// P11.1: bytes that are no line, or don't end within 200; nothing goes out, for
// no packets are spoken yet.
func TestNoLines(t *testing.T) {
	for _, s := range []string{
		"\n",
		"\r\n",
		"SSH-2.0\r\n",
		"SSH-1.99-x\r\n",
		"SSH-2.0-x\r\r\n",
		"SSH-2.0-x\ry\n",
		"SSH-2.0-x\x00\r\n",
		"SSH-2.0-x\x7f\n",
		"\nSSH-2.0-x\r\n",
		"hello\r\nSSH-2.0-x\r\n",
		"SSH-2.0-" + strings.Repeat("x", 93) + "\r\n",
		"SSH-2.0-" + strings.Repeat("x", 191) + "\n",
		"SSH-2.0-" + strings.Repeat("x", 192),
		strings.Repeat("\x00", 200),
		strings.Repeat("\r", 200),
		strings.Repeat("x", 199) + "\n",
		strings.Repeat("x", 200) + "\n",
	} {
		for _, plan := range bothPlans {
			for _, step := range []int{1, 7, 1000} {
				p := newPeer(t, plan)
				p.cutLine()
				p.pour(s, step)
				p.is(tunnel.Over, api.ErrForm)
				p.pour("SSH-2.0-x\r\n", step)
				p.wants()
				p.is(tunnel.Over, api.ErrForm)
			}
		}
	}
}

// pour feeds bytes in pieces.
func (p *peer) pour(s string, step int) {
	for len(s) > 0 {
		n := min(step, len(s))
		p.side.Feed([]byte(s[:n]))
		s = s[n:]
	}
}

// P11.1: as long as fewer than 200 bytes came without an end it waits.
func TestLineWaits(t *testing.T) {
	for _, plan := range bothPlans {
		p := newPeer(t, plan)
		p.cutLine()
		p.pour(strings.Repeat("x", 199), 50)
		p.is(tunnel.Lines, api.OK)
		p.wants()
		p.pour("x", 1)
		p.is(tunnel.Over, api.ErrForm)
	}
}

// P11.1: what stands behind the line, in the same bytes, is heard.
func TestBehindTheLine(t *testing.T) {
	for _, plan := range bothPlans {
		p := newPeer(t, plan)
		p.cutLine()
		p.talk.lines[p.own()] = "SSH-2.0-x"
		p.talk.inits[p.own()] = offer(seedOf("o"), ownLists)
		p.side.Feed([]byte("SSH-2.0-x\n" + p.sealed(ignored) + p.sealed(p.talk.inits[p.own()])))
		p.wantsOffer()
		p.swap()
		p.is(tunnel.Auth, api.OK)
	}
}

// P11.1: a side says its line once, and nothing else ahead of the other one's.
func TestOwnLine(t *testing.T) {
	for _, plan := range bothPlans {
		p := newPeer(t, plan)
		p.side.Feed(nil)
		p.side.Feed([]byte("SSH"))
		if e := p.side.Rekey(); e != api.ErrState {
			t.Error(e)
		}
		p.gather()
		if p.wire != "SSH-2.0-tabulary\r\n" {
			t.Errorf("%q", p.wire)
		}
	}
}
