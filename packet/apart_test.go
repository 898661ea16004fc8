package packet_test

import (
	"bytes"
	"crypto/aes"
	"crypto/cipher"
	"crypto/hmac"
	"crypto/sha256"
	"encoding/binary"
	"encoding/hex"
	"math/rand"
	"testing"

	"tabulary/api"
	"tabulary/packet"
)

// Packets reckoned apart from the package, as the chapter's words have it, by
// Go's library.

// unhex answers the bytes of a text in base 16.
func unhex(t *testing.T, s string) []byte {
	t.Helper()
	b, err := hex.DecodeString(s)
	if err != nil {
		t.Fatal(err)
	}
	return b
}

// someBytes answers n bytes of any kind.
func someBytes(rnd *rand.Rand, n int) []byte {
	b := make([]byte, n)
	rnd.Read(b)
	return b
}

// someKeys answers keys of any bytes.
func someKeys(rnd *rand.Rand) packet.Keys {
	return packet.Keys{Key: someBytes(rnd, 16), Iv: someBytes(rnd, 16), Mac: someBytes(rnd, 32)}
}

// numbered answers four bytes of n, and b behind them.
func numbered(n uint32, b []byte) []byte {
	return append(binary.BigEndian.AppendUint32(nil, n), b...)
}

// plainOf answers a packet that says that so many bytes follow and so many of
// them are padding; what does follow is rest.
func plainOf(length uint32, pad int, rest []byte) []byte {
	return append(append(numbered(length, nil), byte(pad)), rest...)
}

// padded answers the packet of a payload with n bytes of padding.
func padded(payload []byte, n int) []byte {
	rest := append(bytes.Clone(payload), bytes.Repeat([]byte{0xEE}, n)...)
	return plainOf(uint32(1+len(rest)), n, rest)
}

// A peer seals packets, whatever they say; without keys till it takes some.
type peer struct {
	keys   packet.Keys
	stream cipher.Stream
	number uint32
}

// streamOf answers the library's stream of keys.
func streamOf(k packet.Keys) cipher.Stream {
	block, err := aes.NewCipher(k.Key)
	if err != nil {
		panic(err)
	}
	return cipher.NewCTR(block, k.Iv)
}

// codeOf answers the code of a packet and its number.
func codeOf(k packet.Keys, number uint32, plain []byte) []byte {
	h := hmac.New(sha256.New, k.Mac)
	h.Write(numbered(number, plain))
	return h.Sum(nil)
}

func (p *peer) take(k packet.Keys) {
	p.keys, p.stream = k, streamOf(k)
}

// unit answers of what the peer's packets are multiples.
func (p *peer) unit() int {
	if p.stream == nil {
		return 8
	}
	return 16
}

// seal answers a packet as it goes over the wire.
func (p *peer) seal(plain []byte) []byte {
	sealed := bytes.Clone(plain)
	if p.stream != nil {
		p.stream.XORKeyStream(sealed, sealed)
		sealed = append(sealed, codeOf(p.keys, p.number, plain)...)
	}
	p.number++
	return sealed
}

// write answers what a writer should: as few bytes of padding as may be, of the
// draw.
func (p *peer) write(payload []byte, draw string) []byte {
	noise := sha256.Sum256(binary.BigEndian.AppendUint64([]byte(draw), uint64(p.number)))
	n := 4
	for (5+len(payload)+n)%p.unit() != 0 {
		n++
	}
	rest := append(bytes.Clone(payload), noise[:n]...)
	return p.seal(plainOf(uint32(1+len(rest)), n, rest))
}

// A model answers what a reader should, of all bytes since its keys, each time
// anew.
type model struct {
	keys    packet.Keys // none, if its key is empty
	all     []byte
	read    int // how many of them were packets
	count   int
	number  uint32
	stopped bool
}

func (m *model) take(k packet.Keys) {
	m.keys, m.all, m.read, m.count = k, nil, 0, 0
}

func (m *model) left() bool {
	return !m.stopped && m.read < len(m.all)
}

func (m *model) next() ([]byte, api.Errno) {
	if m.stopped {
		return nil, api.ErrOver
	}
	payload, e := m.look()
	m.stopped = e != api.OK && e != api.ErrWait
	return payload, e
}

func (m *model) look() ([]byte, api.Errno) {
	unit, behind, plain := 8, 0, bytes.Clone(m.all)
	if len(m.keys.Key) > 0 {
		unit, behind = 16, 32
		m.plain(plain)
	}
	plain = plain[m.read:]
	if len(plain) < unit {
		return nil, api.ErrWait
	}
	length := uint64(binary.BigEndian.Uint32(plain))
	if length < 5 || length > 2348 || (length+4)%uint64(unit) != 0 {
		return nil, api.ErrLen
	}
	whole := int(length) + 4
	if len(plain) < whole+behind {
		return nil, api.ErrWait
	}
	if behind > 0 && !bytes.Equal(codeOf(m.keys, m.number, plain[:whole]), m.all[m.read+whole:m.read+whole+behind]) {
		return nil, api.ErrMac
	}
	pad := int(plain[4])
	if pad < 4 || pad >= whole-5 {
		return nil, api.ErrForm
	}
	m.read += whole + behind
	m.number++
	m.count++
	return plain[5 : whole-pad], api.OK
}

// plain turns back all but the codes: each packet's own length says where its
// code stands, on which the stream isn't spent.
func (m *model) plain(b []byte) {
	stream := streamOf(m.keys)
	at := 0
	for at < m.read {
		stream.XORKeyStream(b[at:at+4], b[at:at+4])
		whole := 4 + int(binary.BigEndian.Uint32(b[at:]))
		stream.XORKeyStream(b[at+4:at+whole], b[at+4:at+whole])
		at += whole + 32
	}
	stream.XORKeyStream(b[at:], b[at:])
}
