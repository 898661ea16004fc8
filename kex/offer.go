package kex

import (
	"slices"

	"tabulary/api"
	"tabulary/digest"
	"tabulary/wire"
)

const drawSize = 16 // bytes of an offer that nobody can foretell

// Lists of an offer: what each kind of method may be, the most wanted first.
type Lists [8][]string

// Own answers what a side offers.
func Own() Lists {
	return Lists{
		{"curve25519-sha256"},
		{algorithm},
		{"aes128-ctr"},
		{"aes128-ctr"},
		{"hmac-sha2-256"},
		{"hmac-sha2-256"},
		{"none"},
		{"none"},
	}
}

// Init answers an offer as a payload.
func Init(l Lists, draw string) []byte {
	noise := digest.Draw(draw, 0)
	p := append([]byte{MsgInit}, noise[:drawSize]...)
	for _, names := range l {
		p = wire.Names(p, names)
	}
	for range 2 { // the languages
		p = wire.Names(p, nil)
	}
	return wire.U32(wire.Flag(p, false), 0)
}

// ReadInit answers the lists of an offer's payload; ErrForm, if it is none.
func ReadInit(p []byte) (Lists, api.Errno) {
	var l Lists
	r := wire.From(p)
	message := r.Byte()
	r.Bytes(drawSize)
	for kind := range l {
		l[kind] = r.Names()
	}
	for range 2 {
		r.Names()
	}
	r.Flag()
	r.U32()
	if !r.End() || message != MsgInit {
		return Lists{}, api.ErrForm
	}
	return l, api.OK
}

// Agree answers ErrAgree, unless both sides come to Own's method of each kind.
func Agree(client, server Lists) api.Errno {
	for kind, own := range Own() {
		name, ok := firstOf(client[kind], server[kind])
		if !ok || !slices.Contains(own, name) {
			return api.ErrAgree
		}
	}
	return api.OK
}

// firstOf answers the client's first name that the server has, too; false, if
// there is none.
func firstOf(client, server []string) (string, bool) {
	i := slices.IndexFunc(client, func(name string) bool {
		return slices.Contains(server, name)
	})
	if i < 0 {
		return "", false
	}
	return client[i], true
}
