package chans_test

import (
	"testing"

	"tabulary/api"
	"tabulary/chans"
)

// others are requests to which the answer is no, without their flags.
func others() [][2]string {
	return [][2]string{
		{"", ""},
		{"x", ""},
		{"x", "anything \xff\xff\xff\xff"},
		{"exec", text("netconf")},
		{"shell", ""},
		{"env", text("A") + text("b")},
		{"subsyste", text("netconf")},
		{"subsystem2", text("netconf")},
		{"Subsystem", text("netconf")},
		{"subsystem\x00", text("netconf")},
		{"subsystem", text("")},
		{"subsystem", text("netcon")},
		{"subsystem", text("netconf2")},
		{"subsystem", text("Netconf")},
		{"subsystem", text("netconf\x00")},
		{"subsystem", text("sftp")},
		{"subsystem", text(long(16384))},
		{long(16384), ""},
	}
}

// P10.1: a request for netconf makes a server's end Ready, once; it is answered,
// if its flag is set, which any byte but 0 does.
func TestSubsystem(t *testing.T) {
	for flag := range 256 {
		c := opened(t, true, 8, 4096, 512)
		f := string([]byte{byte(flag)})
		takes(t, c, request(0, "subsystem", f, text("netconf")))
		stands(t, c, chans.Open, true, 0)
		if flag == 0 {
			says(t, c)
		} else {
			says(t, c, success(8))
		}
		takes(t, c, request(0, "subsystem", f, text("netconf")))
		stands(t, c, chans.Open, true, 0)
		if flag == 0 {
			says(t, c)
		} else {
			says(t, c, failure(8))
		}
		is(t, c.Send([]byte("x")), api.OK)
		says(t, c, data(8, "x"))
	}
}

// P10.1: to any other request the answer is no, if one is asked for.
func TestOtherRequests(t *testing.T) {
	c := opened(t, true, 8, 4096, 512)
	for _, r := range others() {
		takes(t, c, request(0, r[0], "\x00", r[1]))
		says(t, c)
		for _, flag := range []string{"\x01", "\x02", "\xff"} {
			takes(t, c, request(0, r[0], flag, r[1]))
			says(t, c, failure(8))
		}
		stands(t, c, chans.Open, false, 0)
	}
	takes(t, c, netconf(0))
	says(t, c, success(8))
	for _, r := range others() {
		takes(t, c, request(0, r[0], "\x01", r[1]), request(0, r[0], "\x00", r[1]))
		says(t, c, failure(8))
		stands(t, c, chans.Open, true, 0)
	}
}

// P10.1: a request with something behind the text netconf isn't just that one.
func TestMoreBehindNetconf(t *testing.T) {
	c := opened(t, true, 8, 4096, 512)
	for _, more := range []string{"\x00", "x", text("netconf"), text("")} {
		takes(t, c, request(0, "subsystem", "\x01", text("netconf")+more), request(0, "subsystem", "\x00", text("netconf")+more))
		says(t, c, failure(8))
		stands(t, c, chans.Open, false, 0)
	}
}

// P10.1: to a client's end any request is answered by no.
func TestRequestsOfAClient(t *testing.T) {
	for _, c := range []*chans.Chan{opened(t, false, 8, 4096, 512), running(t, false, 8, 4096, 512)} {
		ready := c.Ready()
		for _, r := range append(others(), [2]string{"subsystem", text("netconf")}) {
			takes(t, c, request(0, r[0], "\x01", r[1]), request(0, r[0], "\x00", r[1]))
			says(t, c, failure(8))
			stands(t, c, chans.Open, ready, 0)
		}
	}
}

// P10.1: a request for a subsystem may be cut off anywhere, of another one what
// stands ahead of its flag, and the flag.
func TestRequestsCutOff(t *testing.T) {
	ends := []*chans.Chan{
		opened(t, true, 8, 4096, 512), running(t, true, 8, 4096, 512),
		opened(t, false, 8, 4096, 512), running(t, false, 8, 4096, 512),
	}
	for _, c := range ends {
		for _, p := range []string{netconf(0), request(0, "subsystem", "\x00", text("x"))} {
			for n := range p {
				errs(t, c, p[:n])
			}
		}
		for _, flag := range []string{"\x00", "\x01"} {
			errs(t, c, request(0, "subsystem", flag, "\xff\xff\xff\xffnetconf"), request(0, "subsystem", flag, text(long(16385))))
		}
		p := request(0, "shell", "", "")
		for n := range len(p) + 1 {
			errs(t, c, p[:n])
		}
		errs(t, c, request(0, long(16385), "\x01", ""))
		takes(t, c, request(0, "shell", "\x01", ""))
		says(t, c, failure(8))
	}
}

// P10.1: success makes a client's end Ready, once.
func TestSuccess(t *testing.T) {
	c := opened(t, false, 8, 4096, 512)
	takes(t, c, success(0))
	stands(t, c, chans.Open, true, 0)
	says(t, c)
	errs(t, c, success(0), failure(0))
	is(t, c.Send([]byte("x")), api.OK)
	says(t, c, data(8, "x"))
}

// P10.1: behind a failure a client closes, once.
func TestFailure(t *testing.T) {
	c := opened(t, false, 8, 4096, 512)
	takes(t, c, failure(0))
	stands(t, c, chans.Open, false, 0)
	says(t, c, eof(8), bye(8))
	is(t, c.Close(), api.ErrState)
	is(t, c.Send(nil), api.ErrState)
	takes(t, c, failure(0))
	says(t, c)
	stands(t, c, chans.Open, false, 0)
	takes(t, c, bye(0))
	says(t, c)
	stands(t, c, chans.Shut, false, 0)
}

// P10.1: success behind this side's close: the subsystem runs, but nothing may
// be sent.
func TestSuccessBehindClose(t *testing.T) {
	c := opened(t, false, 8, 4096, 512)
	is(t, c.Close(), api.OK)
	says(t, c, eof(8), bye(8))
	takes(t, c, success(0))
	stands(t, c, chans.Open, true, 0)
	is(t, c.Send([]byte("x")), api.ErrState)
	errs(t, c, failure(0), success(0))
	c = opened(t, true, 8, 4096, 512)
	is(t, c.Close(), api.OK)
	says(t, c, eof(8), bye(8))
	takes(t, c, netconf(0))
	stands(t, c, chans.Open, true, 0)
	says(t, c, success(8))
	is(t, c.Send([]byte("x")), api.ErrState)
}

// P10.1: a server's end hears no answers to requests.
func TestAnswersToAServer(t *testing.T) {
	for _, c := range []*chans.Chan{opened(t, true, 8, 4096, 512), running(t, true, 8, 4096, 512)} {
		errs(t, c, success(0), failure(0))
		is(t, c.Close(), api.OK)
		says(t, c, eof(8), bye(8))
		errs(t, c, success(0), failure(0))
	}
}
