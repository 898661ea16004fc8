package packet

import (
	"bytes"

	"tabulary/api"
	"tabulary/cipher"
	"tabulary/digest"
	"tabulary/wire"
)

const codeSize = 32 // bytes of a code, and of the key that it is made under

// A direction is what a writer and a reader share: its keys, and how many
// packets went by.
type direction struct {
	stream *cipher.Stream // nil: without keys
	mac    [codeSize]byte
	count  int
	number uint32
}

// Take has these keys from now on; ErrLen, if one of them has another length.
// The packets' numbers go on.
func (d *direction) Take(k Keys) api.Errno {
	stream, e := cipher.New(k.Key, k.Iv)
	if e != api.OK || len(k.Mac) != codeSize {
		return api.ErrLen
	}
	d.stream, d.mac, d.count = stream, [codeSize]byte(k.Mac), 0
	return api.OK
}

// Count answers how many packets there were under the keys.
func (d *direction) Count() int { return d.count }

// Number answers how many packets there were, modulo 2^32: the next one's number.
func (d *direction) Number() uint32 { return d.number }

// step goes on to the next packet.
func (d *direction) step() {
	d.count++
	d.number++
}

// unit answers of what a packet's size is a multiple.
func (d *direction) unit() int {
	if d.stream == nil {
		return unitPlain
	}
	return unitSealed
}

// turned answers b turned by the keys' stream, which goes on by that; b's copy
// without keys.
func (d *direction) turned(b []byte) []byte {
	if d.stream == nil {
		return bytes.Clone(b)
	}
	return d.stream.Turn(b)
}

// code answers the code of the next packet, which isn't sealed; none without keys.
func (d *direction) code(plain []byte) []byte {
	if d.stream == nil {
		return nil
	}
	code := digest.Mac(d.mac[:], wire.U32(nil, d.number), plain)
	return code[:]
}

// codeLength answers how many bytes stand behind a packet as its code.
func (d *direction) codeLength() int {
	if d.stream == nil {
		return 0
	}
	return codeSize
}
