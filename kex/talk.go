package kex

import (
	"slices"

	"tabulary/digest"
	"tabulary/packet"
	"tabulary/wire"
)

const (
	cipherSize = 16 // bytes of a cipher's key, and of its counter
	codeSize   = 32 // bytes of the key of codes
)

// A Talk is what both sides said ahead of their keys; the client's part of each
// pair stands first.
type Talk struct {
	Lines  [2]string
	Inits  [2][]byte
	Host   string // the blob of the host's key
	Shares [2]string
	Shared []byte
}

// Hash answers a talk's hash, of which both sides must have the same one.
func Hash(t Talk) []byte {
	var b []byte
	for _, line := range t.Lines {
		b = wire.Text(b, line)
	}
	for _, offer := range t.Inits {
		b = wire.Text(b, string(offer))
	}
	b = wire.Text(b, t.Host)
	for _, share := range t.Shares {
		b = wire.Text(b, share)
	}
	sum := digest.Sum256(wire.Int(b, t.Shared))
	return sum[:]
}

// Keys answers those of what the client says, and of what the server says.
func Keys(t Talk, session []byte) [2]packet.Keys {
	secret := append(wire.Int(nil, t.Shared), Hash(t)...)
	key := func(letter byte, size int) []byte {
		sum := digest.Sum256(slices.Concat(secret, []byte{letter}, session))
		return sum[:size:size]
	}
	return [2]packet.Keys{
		{Iv: key('A', cipherSize), Key: key('C', cipherSize), Mac: key('E', codeSize)},
		{Iv: key('B', cipherSize), Key: key('D', cipherSize), Mac: key('F', codeSize)},
	}
}
