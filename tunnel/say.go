package tunnel

import (
	"tabulary/api"
	"tabulary/wire"
)

// say has a payload go out; as long as a trade goes on it waits.
func (s *Side) say(p []byte) {
	if s.trade != nil {
		s.waits = append(s.waits, p)
		return
	}
	s.write(p)
}

// sayWaiting has the payloads go out that waited for a trade's end.
func (s *Side) sayWaiting() {
	l := s.waits
	s.waits = nil
	for _, p := range l {
		s.write(p)
	}
}

// sayChannels has what the channel's end says go out.
func (s *Side) sayChannels() {
	for _, p := range s.end.Out() {
		s.say(p)
	}
}

// write has a payload go out at once, as a packet. Nothing goes out of a side
// that is over; a payload that makes no packet ends it.
func (s *Side) write(p []byte) {
	if s.stage == Over {
		return
	}
	b, e := s.writer.Write(p, s.plan.Draw)
	if e != api.OK {
		s.fail(e)
		return
	}
	s.out = append(s.out, b...)
}

// fail ends the side with an error, which the other side is told of, if packets
// are spoken already.
func (s *Side) fail(e api.Errno) {
	if s.stage != Lines {
		s.write(bye(e))
	}
	s.finish(e)
}

// finish ends the side; the other one is told nothing.
func (s *Side) finish(why api.Errno) {
	s.stage, s.why = Over, why
	s.trade, s.waits = nil, nil
}

// bye answers a payload that tells why it is over.
func bye(e api.Errno) []byte {
	p := wire.U32([]byte{MsgBye}, uint32(e))
	return wire.Text(wire.Text(p, ""), "")
}
