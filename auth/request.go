package auth

import "tabulary/wire"

// A request is what a user's payload says; what its method doesn't have is zero.
type request struct {
	user      string
	method    string
	password  string
	algorithm string
	blob      string
	signed    bool
	signature string
}

// readRequest answers what a payload says; false, if it is no request that can
// be heard.
func readRequest(p []byte) (request, bool) {
	r := wire.From(p)
	message, user, service, method := r.Byte(), r.Text(), r.Text(), r.Text()
	if !r.Ok() || message != MsgRequest || service != connection {
		return request{}, false
	}
	q := request{user: user, method: method}
	switch method {
	case byNone:
		return q, r.End()
	case byPassword:
		changes := r.Flag()
		q.password = r.Text()
		return q, r.End() && !changes
	case byKey:
		q.signed, q.algorithm, q.blob = r.Flag(), r.Text(), r.Text()
		if q.signed {
			q.signature = r.Text()
		}
		return q, r.End()
	}
	return q, true // nobody knows what should stand behind such a method
}
