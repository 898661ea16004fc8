package tunnel

import (
	"tabulary/api"
	"tabulary/digest"
	"tabulary/kex"
	"tabulary/ladder"
	"tabulary/packet"
	"tabulary/twist"
)

const (
	firstDraw = 1 << 32 // the trades' draws stand behind it; ahead of it, those of the padding
	nameSize  = 8       // bytes of a trade's draw that its offer is drawn of
)

// A trade of keys.
type trade struct {
	secret [32]byte
	talk   kex.Talk
	known  bool         // whether the other side's offer is known
	keys   *packet.Keys // of what the other side says behind its MsgNewKeys, once this side said its own
}

// share answers this side's share.
func (t *trade) share() string {
	b, _ := ladder.Public(t.secret[:]) // no error, for the secret is as long as it must be
	return string(b)
}

// meet reckons what is shared with who has a share.
func (t *trade) meet(share string) api.Errno {
	shared, e := ladder.Shared(t.secret[:], []byte(share))
	t.talk.Shared = shared
	return e
}

// tradeIfDue trades keys anew, if those that are there were used often enough.
func (s *Side) tradeIfDue() {
	if s.stage == Chan && s.trade == nil && s.writer.Count() >= api.RekeyAfter {
		s.beginTrade()
	}
}

// beginTrade begins a trade by this side's offer.
func (s *Side) beginTrade() {
	s.trades++
	d := digest.Draw(s.plan.Draw, firstDraw+uint64(s.trades))
	offer := kex.Init(kex.Own(), s.plan.Draw+string(d[:nameSize]))
	s.trade = &trade{secret: d, talk: kex.Talk{Lines: s.lines}}
	s.trade.talk.Inits[s.own()] = offer
	s.write(offer)
}

// hearOffer hears the other side's offer.
func (s *Side) hearOffer(p []byte) api.Errno {
	theirs, e := kex.ReadInit(p)
	if e != api.OK {
		return e
	}
	if s.trade == nil {
		s.beginTrade()
	}
	s.trade.known = true
	s.trade.talk.Inits[s.other()] = p
	offers := [2]kex.Lists{theirs, theirs}
	offers[s.own()] = kex.Own()
	if e := kex.Agree(offers[0], offers[1]); e != api.OK {
		return e
	}
	if !s.plan.Server {
		s.trade.talk.Shares[0] = s.trade.share()
		s.write(kex.Ask(s.trade.talk.Shares[0]))
	}
	return api.OK
}

// hearTrade hears a payload behind the other side's offer.
func (s *Side) hearTrade(p []byte) api.Errno {
	switch {
	case s.trade.keys != nil:
		return s.hearNewKeys(p)
	case s.plan.Server:
		return s.hearAsk(p)
	}
	return s.hearReply(p)
}

// hearAsk hears a client's share, and answers it.
func (s *Side) hearAsk(p []byte) api.Errno {
	t := &s.trade.talk
	t.Shares = [2]string{kex.ReadAsk(p), s.trade.share()}
	if t.Shares[0] == "" {
		return api.ErrForm
	}
	if e := s.trade.meet(t.Shares[0]); e != api.OK {
		return e
	}
	// No errors, for the seed in the plan is as long as it must be.
	pub, _ := twist.Public([]byte(s.plan.Host))
	t.Host = kex.Blob(string(pub))
	reply, _ := kex.Reply(*t, s.plan.Host)
	s.write(reply)
	s.changeKeys()
	return api.OK
}

// hearReply hears a server's share, and holds it against the host's key.
func (s *Side) hearReply(p []byte) api.Errno {
	t := &s.trade.talk
	host, share, sig, ok := kex.ReadReply(p)
	if !ok {
		return api.ErrForm
	}
	pub := kex.ReadBlob(host)
	if s.plan.Host != "" && s.plan.Host != pub {
		return api.ErrSign
	}
	t.Host, t.Shares[1] = host, share
	if e := s.trade.meet(share); e != api.OK {
		return e
	}
	if !twist.Verify([]byte(pub), kex.Hash(*t), sig) {
		return api.ErrSign
	}
	s.changeKeys()
	return api.OK
}

// changeKeys says that what this side says from now on is under its new keys.
func (s *Side) changeKeys() {
	s.write([]byte{kex.MsgNewKeys})
	if s.session == nil {
		s.session = kex.Hash(s.trade.talk)
	}
	keys := kex.Keys(s.trade.talk, s.session)
	s.writer.Take(keys[s.own()])
	s.trade.keys = &keys[s.other()]
}

// hearNewKeys hears that what the other side says from now on is under its new
// keys, which ends the trade.
func (s *Side) hearNewKeys(p []byte) api.Errno {
	if string(p) != string([]byte{kex.MsgNewKeys}) {
		return api.ErrForm
	}
	s.reader.Take(*s.trade.keys)
	s.trade = nil
	if s.stage == Keys {
		s.knock()
	}
	s.sayWaiting()
	return api.OK
}
