package chans

import "tabulary/api"

const (
	firstWindow = 1 << 30   // as much of the other end's first window counts
	mostWindow  = 1<<31 - 1 // above it no window is widened
)

// Take hears a message; ErrForm, if it says nothing here.
func (c *Chan) Take(p []byte) api.Errno {
	m, ok := read(p)
	// All is looked at ahead of the first change, so that a message that may
	// not come changes nothing.
	if c == nil || !ok || !c.hears(m) {
		return api.ErrForm
	}
	c.heed(m)
	return api.OK
}

// hears tells whether a message may come.
func (c *Chan) hears(m message) bool {
	switch m.kind {
	case MsgOpen:
		return c.server
	case MsgConfirm:
		return c.state == Opening && m.to == own && m.most > 0
	case MsgRefuse:
		return c.state == Opening
	}
	return c.state == Open && m.to == own && c.hearsOpen(m)
}

// hearsOpen tells whether a message may come while the channel is open.
func (c *Chan) hearsOpen(m message) bool {
	switch m.kind {
	case MsgAdjust:
		return m.window <= mostWindow-uint32(c.window)
	case MsgData:
		return !c.ended && len(m.text) <= min(c.room, api.MaxPart)
	case MsgEof:
		return !c.ended
	case MsgSuccess, MsgFailure:
		return !c.server && !c.ready
	}
	return true
}

// heed does what a message that may come asks for.
func (c *Chan) heed(m message) {
	switch m.kind {
	case MsgOpen:
		c.admit(m)
	case MsgConfirm:
		c.open(m)
		c.say(request(c.number))
	case MsgRefuse:
		c.state = Shut
	case MsgAdjust:
		c.window += int(m.window)
		c.flow()
	case MsgData:
		c.room -= len(m.text)
		c.came = append(c.came, m.text...)
	case MsgEof:
		c.ended = true
	case MsgClose:
		c.close()
		c.state = Shut
	case MsgRequest:
		c.answer(m)
	case MsgSuccess:
		c.ready = true
	case MsgFailure:
		c.close()
	}
}

// admit opens the channel to who wishes for it, or refuses it.
func (c *Chan) admit(m message) {
	if c.state != None || m.text != session || m.most == 0 {
		c.say(refuse(m.from))
		return
	}
	c.open(m)
	c.say(confirm(c.number))
}

// open opens the channel to an end that told its bounds.
func (c *Chan) open(m message) {
	c.state = Open
	c.number = m.from
	c.window = int(min(m.window, firstWindow))
	c.most = int(min(m.most, api.MaxPart))
	c.room = api.MaxWindow
}

// answer runs the subsystem, if a request is for it and may be, and says whether
// it does, if that is asked for.
func (c *Chan) answer(m message) {
	runs := m.runs && c.server && !c.ready
	c.ready = c.ready || runs
	if !m.ask {
		return
	}
	kind := byte(MsgFailure)
	if runs {
		kind = MsgSuccess
	}
	c.say(to(kind, c.number))
}
