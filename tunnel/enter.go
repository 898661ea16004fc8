package tunnel

import (
	"tabulary/api"
	"tabulary/auth"
	"tabulary/chans"
)

const userauth = "ssh-userauth"

// knock begins with being let in, once there are keys.
func (s *Side) knock() {
	s.stage = Auth
	if s.plan.Server {
		s.gate = auth.New(s.plan.Users, s.session, s.plan.Tries)
		s.plan.Users = nil
		return
	}
	s.say(auth.Service(userauth))
}

// hearRequest hears what a client says to be let in.
func (s *Side) hearRequest(p []byte) api.Errno {
	answer, e := s.gate.Take(p)
	if e != api.OK {
		return e
	}
	s.say(answer)
	if answer[0] == auth.MsgSuccess {
		s.enter()
	}
	return api.OK
}

// hearAnswer hears what a server says to who would be let in.
func (s *Side) hearAnswer(p []byte) api.Errno {
	switch {
	case p[0] == auth.MsgFailure:
		return api.ErrAgree
	case !s.asked && string(p) == string(auth.Accept(userauth)):
		return s.askIn()
	case s.asked && string(p) == string([]byte{auth.MsgSuccess}):
		s.enter()
		return api.OK
	}
	return api.ErrForm
}

// askIn asks to be let in, by the user's key, or, without one, by the password.
func (s *Side) askIn() api.Errno {
	s.asked = true
	p, e := auth.Password(s.plan.User, s.plan.Pass), api.OK
	if s.plan.Seed != "" {
		p, e = auth.Prove(s.session, s.plan.User, s.plan.Seed)
	}
	if e == api.OK {
		s.say(p)
	}
	return e
}

// enter goes on to the channel, which is the client's to begin.
func (s *Side) enter() {
	s.stage = Chan
	s.end = chans.New(s.plan.Server)
	if !s.plan.Server {
		s.end.Begin()
	}
	s.sayChannels()
}
