package chans

import (
	"tabulary/api"
	"tabulary/wire"
)

const (
	own       = 0 // the number of either end, for there is but one channel
	session   = "session"
	subsystem = "subsystem"
	netconf   = "netconf"

	unknownType = 3 // why a channel is refused (RFC 4254, 5.1)
)

// wish answers a wish for the channel.
func wish() []byte {
	return bounds(wire.Text([]byte{MsgOpen}, session))
}

// confirm answers that the channel is open.
func confirm(number uint32) []byte {
	return bounds(to(MsgConfirm, number))
}

// bounds answers p, and behind it what either end begins with.
func bounds(p []byte) []byte {
	p = wire.U32(p, own)
	p = wire.U32(p, api.MaxWindow)
	return wire.U32(p, api.MaxPart)
}

// refuse answers that there is no such channel.
func refuse(number uint32) []byte {
	p := wire.U32(to(MsgRefuse, number), unknownType)
	return wire.Text(wire.Text(p, ""), "")
}

// adjust answers that n bytes more may be sent.
func adjust(number uint32, n int) []byte {
	return wire.U32(to(MsgAdjust, number), uint32(n))
}

// data answers bytes as a message.
func data(number uint32, s string) []byte {
	return wire.Text(to(MsgData, number), s)
}

// request answers a request that the subsystem be run, and said whether it is.
func request(number uint32) []byte {
	p := wire.Text(to(MsgRequest, number), subsystem)
	return wire.Text(wire.Flag(p, true), netconf)
}

// to answers what all messages to the end of a number begin with.
func to(kind byte, number uint32) []byte {
	return wire.U32([]byte{kind}, number)
}

// A message that came; what its kind doesn't have is zero.
type message struct {
	kind   byte
	to     uint32 // the number of the end that it is for
	from   uint32 // the number of the end that says it
	window uint32 // or how much is added to it
	most   uint32
	text   string // a channel's name, or data
	ask    bool   // whether a request asks for an answer
	runs   bool   // whether a request is for the subsystem netconf
}

// read answers a message, and whether it is just one.
func read(p []byte) (message, bool) {
	r := wire.From(p)
	m := message{kind: r.Byte()}
	if m.kind != MsgOpen {
		m.to = r.U32()
	}
	switch m.kind {
	case MsgOpen:
		m.text = r.Text()
		m.readBounds(r)
	case MsgConfirm:
		m.readBounds(r)
	case MsgAdjust:
		m.window = r.U32()
	case MsgData:
		m.text = r.Text()
	case MsgRequest:
		m.readRequest(r)
		return m, r.Ok()
	case MsgRefuse:
		return m, r.Ok()
	case MsgEof, MsgClose, MsgSuccess, MsgFailure:
	default:
		return message{}, false
	}
	return m, r.End()
}

// readBounds reads what the other end begins with.
func (m *message) readBounds(r *wire.Reader) {
	m.from = r.U32()
	m.window = r.U32()
	m.most = r.U32()
}

// readRequest reads a request. What another one than for a subsystem needs isn't
// known, so it can't be read.
func (m *message) readRequest(r *wire.Reader) {
	name := r.Text()
	m.ask = r.Flag()
	if name == subsystem {
		m.runs = r.Text() == netconf && r.End()
	}
}
