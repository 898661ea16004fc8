package chans_test

import (
	"encoding/binary"
	"strings"
	"testing"

	"tabulary/api"
	"tabulary/chans"
)

// What the package should say and hear, reckoned apart from it, as the chapter's
// words have it.

// u32 answers four bytes of n.
func u32(n uint32) string {
	return string(binary.BigEndian.AppendUint32(nil, n))
}

// text answers the length of s and its bytes.
func text(s string) string {
	return u32(uint32(len(s))) + s
}

func wish(name string, number, window, most uint32) string {
	return "\x5a" + text(name) + u32(number) + u32(window) + u32(most)
}

func confirm(to, number, window, most uint32) string {
	return "\x5b" + u32(to) + u32(number) + u32(window) + u32(most)
}

func refuse(to uint32) string {
	return "\x5c" + u32(to) + u32(3) + text("") + text("")
}

func adjust(to, n uint32) string {
	return "\x5d" + u32(to) + u32(n)
}

func data(to uint32, s string) string {
	return "\x5e" + u32(to) + text(s)
}

func eof(to uint32) string     { return "\x60" + u32(to) }
func bye(to uint32) string     { return "\x61" + u32(to) }
func success(to uint32) string { return "\x63" + u32(to) }
func failure(to uint32) string { return "\x64" + u32(to) }

// request answers a request, with a flag of any byte and what stands behind it.
func request(to uint32, name, flag, behind string) string {
	return "\x62" + u32(to) + text(name) + flag + behind
}

// netconf answers the request that a client makes.
func netconf(to uint32) string {
	return request(to, "subsystem", "\x01", text("netconf"))
}

// A cutter takes parts from the front of a text.
type cutter struct {
	rest string
	bad  bool // too little was left for a part
}

func (c *cutter) bytes(n int) string {
	if n > len(c.rest) {
		c.rest, c.bad = "", true
		return ""
	}
	s := c.rest[:n]
	c.rest = c.rest[n:]
	return s
}

func (c *cutter) u32() int64 {
	n := int64(0)
	for _, b := range []byte(c.bytes(4)) {
		n = n<<8 + int64(b)
	}
	return n
}

func (c *cutter) text() string {
	n := c.u32()
	if n > 16384 {
		c.rest, c.bad = "", true
		return ""
	}
	return c.bytes(int(n))
}

// A model is what an end should be.
type model struct {
	server               bool
	state                int
	ready                bool
	ended, closed, other bool // MsgEof came; this side closed; the other one did
	number               uint32
	window, most, room   int64
	waits, came          string
	out                  []string
}

func (m *model) say(s string) { m.out = append(m.out, s) }

func (m *model) flow() {
	for m.waits != "" && m.window != 0 && !m.closed {
		n := min(int64(len(m.waits)), m.window, m.most)
		m.say(data(m.number, m.waits[:n]))
		m.waits = m.waits[n:]
		m.window -= n
	}
}

func (m *model) close() {
	m.closed, m.waits = true, ""
	m.say(eof(m.number))
	m.say(bye(m.number))
	if m.other {
		m.state = 3
	}
}

func (m *model) begin() api.Errno {
	if m.server || m.state != 0 {
		return api.ErrState
	}
	m.state, m.room = 1, 4096
	m.say(wish("session", 0, 4096, 512))
	return api.OK
}

func (m *model) send(s string) api.Errno {
	if m.state != 2 || !m.ready || m.closed {
		return api.ErrState
	}
	m.waits += s
	m.flow()
	return api.OK
}

func (m *model) recv() string {
	s := m.came
	m.came = ""
	if s != "" && m.state == 2 && !m.closed {
		m.room += int64(len(s))
		m.say(adjust(m.number, uint32(len(s))))
	}
	return s
}

func (m *model) shut() api.Errno {
	if m.state != 2 || m.closed {
		return api.ErrState
	}
	m.close()
	return api.OK
}

// opens is what a wish and its answer do alike.
func (m *model) opens(number, window, most int64) {
	m.state, m.number, m.window, m.most = 2, uint32(number), min(window, 1<<30), min(most, 512)
}

func (m *model) take(p string) api.Errno {
	if p == "" {
		return api.ErrForm
	}
	c := &cutter{rest: p[1:]}
	switch p[0] {
	case 90:
		name, number, window, most := c.text(), c.u32(), c.u32(), c.u32()
		switch {
		case c.bad || c.rest != "" || !m.server:
			return api.ErrForm
		case m.state != 0 || name != "session" || most == 0:
			m.say(refuse(uint32(number)))
		default:
			m.opens(number, window, most)
			m.room = 4096
			m.say(confirm(m.number, 0, 4096, 512))
		}
		return api.OK
	case 91:
		to, number, window, most := c.u32(), c.u32(), c.u32(), c.u32()
		if c.bad || c.rest != "" || m.state != 1 || to != 0 || most == 0 {
			return api.ErrForm
		}
		m.opens(number, window, most)
		m.say(netconf(m.number))
		return api.OK
	case 92:
		if c.u32(); c.bad || m.state != 1 {
			return api.ErrForm
		}
		m.state = 3
		return api.OK
	}
	if to := c.u32(); c.bad || to != 0 || m.state != 2 || m.other {
		return api.ErrForm
	}
	return m.takeOpen(p[0], c)
}

func (m *model) takeOpen(kind byte, c *cutter) api.Errno {
	switch kind {
	case 93:
		n := c.u32()
		if c.bad || c.rest != "" || m.window+n > 1<<31-1 {
			return api.ErrForm
		}
		m.window += n
		m.flow()
		return api.OK
	case 94:
		s := c.text()
		if c.bad || c.rest != "" || int64(len(s)) > m.room || len(s) > 512 || m.ended {
			return api.ErrForm
		}
		m.room -= int64(len(s))
		m.came += s
		return api.OK
	case 98:
		return m.takeRequest(c)
	}
	switch {
	case c.rest != "":
		return api.ErrForm
	case kind == 96 && !m.ended:
		m.ended = true
	case kind == 97:
		m.other = true
		if !m.closed {
			m.close()
		}
		m.state = 3
	case kind == 99 && !m.server && !m.ready:
		m.ready = true
	case kind == 100 && !m.server && !m.ready:
		if !m.closed {
			m.close()
		}
	default:
		return api.ErrForm
	}
	return api.OK
}

func (m *model) takeRequest(c *cutter) api.Errno {
	name, flag := c.text(), c.bytes(1)
	yes := false
	if name == "subsystem" {
		yes = c.text() == "netconf" && c.rest == "" && m.server && !m.ready
	}
	if c.bad {
		return api.ErrForm
	}
	m.ready = m.ready || yes
	switch {
	case flag == "\x00":
	case yes:
		m.say(success(m.number))
	default:
		m.say(failure(m.number))
	}
	return api.OK
}

// clip answers a text that is short enough to be told.
func clip(s string) string {
	return s[:min(len(s), 60)]
}

// says fails the test unless just these messages go out, and are gone then.
func says(t *testing.T, c *chans.Chan, want ...string) {
	t.Helper()
	l := c.Out()
	if len(l) != len(want) {
		t.Fatalf("%d messages go out, want %d: %q", len(l), len(want), l)
	}
	for i := range l {
		if string(l[i]) != want[i] {
			t.Fatalf("message %d is %q, want %q", i, clip(string(l[i])), clip(want[i]))
		}
	}
	if l := c.Out(); len(l) != 0 {
		t.Fatalf("messages aren't gone: %q", l)
	}
}

// stands fails the test unless an end is so.
func stands(t *testing.T, c *chans.Chan, state int, ready bool, pending int) {
	t.Helper()
	if c.State() != state || c.Ready() != ready || c.Pending() != pending {
		t.Fatalf("State %d, Ready %v, Pending %d; want %d, %v, %d", c.State(), c.Ready(), c.Pending(), state, ready, pending)
	}
}

// takes hands messages to an end that hears them.
func takes(t *testing.T, c *chans.Chan, l ...string) {
	t.Helper()
	for _, p := range l {
		if e := c.Take([]byte(p)); e != api.OK {
			t.Fatalf("Take(%q): %d", clip(p), e)
		}
	}
}

// errs hands messages to an end to which they say nothing, and by which nothing
// may change; what goes out must have been taken ahead of it.
func errs(t *testing.T, c *chans.Chan, l ...string) {
	t.Helper()
	state, ready, pending := c.State(), c.Ready(), c.Pending()
	for _, p := range l {
		if e := c.Take([]byte(p)); e != api.ErrForm {
			t.Fatalf("Take(%q): %d", clip(p), e)
		}
		stands(t, c, state, ready, pending)
		says(t, c)
	}
}

// is fails the test unless an error is this one.
func is(t *testing.T, got, want api.Errno) {
	t.Helper()
	if got != want {
		t.Fatalf("error %d, want %d", got, want)
	}
}

// receives fails the test unless just these bytes came, and are gone then.
func receives(t *testing.T, c *chans.Chan, want string) {
	t.Helper()
	if s := string(c.Recv()); s != want {
		t.Fatalf("%d bytes came: %q, want %d: %q", len(s), clip(s), len(want), clip(want))
	}
	if b := c.Recv(); len(b) != 0 {
		t.Fatalf("bytes aren't gone: %q", b)
	}
}

// opening answers a client's end that is Opening.
func opening(t *testing.T) *chans.Chan {
	t.Helper()
	c := chans.New(false)
	is(t, c.Begin(), api.OK)
	says(t, c, wish("session", 0, 4096, 512))
	return c
}

// opened answers an end that is Open, but not Ready.
func opened(t *testing.T, server bool, number, window, most uint32) *chans.Chan {
	t.Helper()
	if !server {
		c := opening(t)
		takes(t, c, confirm(0, number, window, most))
		says(t, c, netconf(number))
		return c
	}
	c := chans.New(true)
	takes(t, c, wish("session", number, window, most))
	says(t, c, confirm(number, 0, 4096, 512))
	return c
}

// running answers an end whose subsystem runs.
func running(t *testing.T, server bool, number, window, most uint32) *chans.Chan {
	t.Helper()
	c := opened(t, server, number, window, most)
	if server {
		takes(t, c, netconf(0))
		says(t, c, success(number))
	} else {
		takes(t, c, success(0))
	}
	stands(t, c, chans.Open, true, 0)
	return c
}

// both runs a test of either end.
func both(t *testing.T, f func(t *testing.T, server bool)) {
	t.Run("client", func(t *testing.T) { f(t, false) })
	t.Run("server", func(t *testing.T) { f(t, true) })
}

// long answers a text of n bytes, no two of whose near parts are alike.
func long(n int) string {
	var b strings.Builder
	for i := range n {
		b.WriteByte(byte(i / 7 * 31))
	}
	return b.String()
}
