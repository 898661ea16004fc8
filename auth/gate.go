package auth

import (
	"tabulary/api"
	"tabulary/digest"
	"tabulary/kex"
	"tabulary/twist"
	"tabulary/wire"
)

// An account is what a gate knows of a user.
type account struct {
	name     string
	password string
	key      string
}

// A Gate lets users in.
type Gate struct {
	accounts []account
	session  string
	tries    int  // how many are left
	heard    bool // whether requests are heard: the service was wished for
	in       bool // apart from user, for a name may be ""
	user     string
}

// New answers a gate for users, in a session, that takes so many tries.
func New(users []api.User, session []byte, tries int) *Gate {
	g := &Gate{session: string(session), tries: max(tries, 1)}
	for _, u := range users {
		g.accounts = append(g.accounts, account{name: u.Name, password: u.Password, key: u.Key})
	}
	return g
}

// User answers who is in; "".
func (g *Gate) User() string {
	if g == nil {
		return ""
	}
	return g.user
}

// Take answers what is to be said to a payload; ErrState, if somebody is in;
// ErrForm, if it says nothing here; ErrOver, if no tries are left.
func (g *Gate) Take(p []byte) ([]byte, api.Errno) {
	if g == nil || g.in {
		return nil, api.ErrState
	}
	if string(p) == string(Service(userauth)) {
		g.heard = true
		return Accept(userauth), api.OK
	}
	q, ok := readRequest(p)
	if !ok || !g.heard {
		return nil, api.ErrForm
	}
	return g.answer(q)
}

// answer lets a request's user in, tells that a key would do, or refuses.
func (g *Gate) answer(q request) ([]byte, api.Errno) {
	a := g.accountOf(q.user)
	if a.shows(q) || a.proves(q, g.session) {
		g.in, g.user = true, a.name
		return []byte{MsgSuccess}, api.OK
	}
	if a.owns(q) && !q.signed {
		return wire.Text(wire.Text([]byte{MsgFits}, algorithm), q.blob), api.OK
	}
	return g.refuse(q.method)
}

// refuse takes a try, unless nothing was tried.
func (g *Gate) refuse(method string) ([]byte, api.Errno) {
	if method != byNone && g.tries > 0 {
		g.tries--
	}
	if g.tries == 0 {
		return nil, api.ErrOver
	}
	p := wire.Names([]byte{MsgFailure}, []string{byKey, byPassword})
	return wire.Flag(p, false), api.OK
}

// accountOf answers the first account of a name. Of an unknown name it answers
// one without a password and a key, so that it is refused like any other.
func (g *Gate) accountOf(name string) account {
	for _, a := range g.accounts {
		if a.name == name {
			return a
		}
	}
	return account{}
}

// shows tells whether a request has the account's password.
func (a account) shows(q request) bool {
	return q.method == byPassword && a.password != "" && digest.Same([]byte(a.password), []byte(q.password))
}

// owns tells whether a request has the account's key.
func (a account) owns(q request) bool {
	return q.method == byKey && q.algorithm == algorithm && a.key != "" && q.blob == kex.Blob(a.key)
}

// proves tells whether a request is signed by the account's key.
func (a account) proves(q request, session string) bool {
	return a.owns(q) && q.signed &&
		twist.Verify([]byte(a.key), toSign(session, q.user, a.key), kex.ReadSignature(q.signature))
}
