package tunnel

import (
	"strings"

	"tabulary/api"
	"tabulary/kex"
	"tabulary/wire"
)

const (
	ownLine  = "SSH-2.0-tabulary"
	lineEnd  = "\r\n"
	mostLine = 200 // bytes within which the other side's line must end
)

// Feed hears bytes that came.
func (s *Side) Feed(b []byte) {
	if s == nil {
		return
	}
	// One by one: no byte of the next packet may wait in the reader when its
	// keys change.
	for i := range b {
		switch s.stage {
		case Over:
			return
		case Lines:
			s.hearLine(b[i])
		default:
			s.hearPacket(b[i : i+1])
		}
	}
	s.tradeIfDue()
}

// hearLine hears a byte of the other side's line.
func (s *Side) hearLine(c byte) {
	s.begun = append(s.begun, c)
	if c != '\n' && len(s.begun) < mostLine {
		return
	}
	line, ok := strings.CutSuffix(string(s.begun), "\n")
	line = kex.Line(strings.TrimSuffix(line, "\r"))
	if !ok || line == "" {
		s.fail(api.ErrForm)
		return
	}
	s.lines[s.other()], s.begun = line, nil
	s.stage = Keys
	s.beginTrade()
}

// hearPacket hears bytes of a packet, no more than up to its end.
func (s *Side) hearPacket(b []byte) {
	s.reader.Feed(b)
	p, e := s.reader.Next()
	if e == api.ErrWait {
		return
	}
	if e == api.OK {
		e = s.hear(p)
	}
	if e != api.OK {
		s.fail(e)
	}
}

// hear hears a payload; with an error the side is to end.
func (s *Side) hear(p []byte) api.Errno {
	switch {
	case p[0] == MsgBye:
		s.finish(api.ErrOver)
		return api.OK
	case p[0] == MsgIgnore:
		return api.OK
	case s.trade != nil && s.trade.known:
		return s.hearTrade(p)
	case p[0] == kex.MsgInit:
		return s.hearOffer(p)
	}
	return s.hearStage(p)
}

// hearStage hears a payload that is said at this stage alone.
func (s *Side) hearStage(p []byte) api.Errno {
	switch {
	case s.stage == Auth && s.plan.Server:
		return s.hearRequest(p)
	case s.stage == Auth:
		return s.hearAnswer(p)
	case s.stage == Chan && p[0] == MsgGlobal:
		return s.hearGlobal(p)
	case s.stage == Chan:
		e := s.end.Take(p)
		s.sayChannels()
		return e
	}
	return api.ErrForm
}

// hearGlobal hears a wish that isn't the channel's. None is granted, which is
// said, if an answer is asked for.
func (s *Side) hearGlobal(p []byte) api.Errno {
	r := wire.From(p)
	r.Byte()
	r.Text()
	asks := r.Flag()
	if !r.Ok() {
		return api.ErrForm
	}
	if asks {
		s.say([]byte{MsgNo})
	}
	return api.OK
}
