package tunnel_test

import (
	"crypto/aes"
	"crypto/cipher"
	"crypto/ecdh"
	"crypto/ed25519"
	"crypto/hmac"
	"crypto/sha256"
	"encoding/binary"
	"math/big"
	"strings"
)

// What a side should say and hear, reckoned apart from the project, as the
// chapters' words have it, by Go's library.

// u32 answers four bytes of n.
func u32(n uint32) string {
	return string(binary.BigEndian.AppendUint32(nil, n))
}

// text answers the length of s and its bytes.
func text(s string) string {
	return u32(uint32(len(s))) + s
}

// number answers an int of the bytes of a number.
func number(s string) string {
	n := new(big.Int).SetBytes([]byte(s))
	if n.Sign() == 0 {
		return text("")
	}
	return text(string(n.FillBytes(make([]byte, n.BitLen()/8+1))))
}

// hash answers the small hash of texts, one behind the other.
func hash(l ...string) string {
	sum := sha256.Sum256([]byte(strings.Join(l, "")))
	return string(sum[:])
}

// drawn answers draw n of a seed.
func drawn(seed string, n uint64) string {
	return hash(seed, string(binary.BigEndian.AppendUint64(nil, n)))
}

// told answers a key or a signature as it is told.
func told(s string) string {
	return text("ssh-ed25519") + text(s)
}

// pubOf answers a seed's public key.
func pubOf(seed string) string {
	return string(ed25519.NewKeyFromSeed([]byte(seed)).Public().(ed25519.PublicKey))
}

// sigOf answers a seed's signature of a text.
func sigOf(seed, s string) string {
	return string(ed25519.Sign(ed25519.NewKeyFromSeed([]byte(seed)), []byte(s)))
}

// shareOf answers a secret's share.
func shareOf(secret string) string {
	k, err := ecdh.X25519().NewPrivateKey([]byte(secret))
	if err != nil {
		panic(err)
	}
	return string(k.PublicKey().Bytes())
}

// sharedOf answers what a secret shares with who has a share.
func sharedOf(secret, share string) string {
	k, err := ecdh.X25519().NewPrivateKey([]byte(secret))
	if err != nil {
		panic(err)
	}
	pub, err := ecdh.X25519().NewPublicKey([]byte(share))
	if err != nil {
		panic(err)
	}
	b, err := k.ECDH(pub)
	if err != nil {
		panic(err)
	}
	return string(b)
}

// ownLists are those of a side's own offers.
var ownLists = [8]string{
	"curve25519-sha256", "ssh-ed25519", "aes128-ctr", "aes128-ctr",
	"hmac-sha2-256", "hmac-sha2-256", "none", "none",
}

// offer answers an offer's payload.
func offer(noise string, lists [8]string) string {
	s := "\x14" + noise[:16]
	for _, l := range lists {
		s += text(l)
	}
	return s + text("") + text("") + "\x00" + u32(0)
}

// secretOf answers a side's secret of its trade t, and its offer.
func secretOf(draw string, t int) (string, string) {
	d := drawn(draw, 1<<32+uint64(t))
	return d, offer(drawn(draw+d[:8], 0), ownLists)
}

// A talk is what both sides said ahead of their keys.
type talk struct {
	lines, inits, shares [2]string
	host, shared         string
}

// sum answers a talk's hash.
func (t talk) sum() string {
	s := ""
	for _, part := range []string{t.lines[0], t.lines[1], t.inits[0], t.inits[1], t.host, t.shares[0], t.shares[1]} {
		s += text(part)
	}
	return hash(s, number(t.shared))
}

// key answers the key of a letter.
func (t talk) key(letter, session string) string {
	return hash(number(t.shared), t.sum(), letter, session)
}

// A half is what goes over the wire in one direction.
type half struct {
	stream cipher.Stream // nil: without keys
	mac    string
	number uint32
}

// take has the keys of a talk from now on: the client's, or the server's.
func (h *half) take(t talk, session string, server int) {
	letters := [2]string{"ACE", "BDF"}[server]
	block, err := aes.NewCipher([]byte(t.key(letters[1:2], session)[:16]))
	if err != nil {
		panic(err)
	}
	h.stream = cipher.NewCTR(block, []byte(t.key(letters[:1], session)[:16]))
	h.mac = t.key(letters[2:], session)
}

// turn answers b turned by the keys' stream.
func (h *half) turn(b string) string {
	out := []byte(b)
	if h.stream != nil {
		h.stream.XORKeyStream(out, out)
	}
	return string(out)
}

// code answers the code of a packet; "" without keys.
func (h *half) code(plain string) string {
	if h.stream == nil {
		return ""
	}
	m := hmac.New(sha256.New, []byte(h.mac))
	m.Write([]byte(u32(h.number) + plain))
	return string(m.Sum(nil))
}

// unit answers of what packets are multiples.
func (h *half) unit() int {
	if h.stream == nil {
		return 8
	}
	return 16
}

// plainOf answers a packet of a payload with padding of a noise.
func (h *half) plainOf(payload, noise string) string {
	n := 4
	for (5+len(payload)+n)%h.unit() != 0 {
		n++
	}
	return u32(uint32(1+len(payload)+n)) + string([]byte{byte(n)}) + payload + noise[:n]
}

// seal answers a packet as it goes over the wire.
func (h *half) seal(plain string) string {
	s := h.turn(plain) + h.code(plain)
	h.number++
	return s
}

// Messages that aren't the trade's.
const (
	ignored  = "\x02" + "whatever"
	newKeys  = "\x15"
	success  = "\x34"
	notGiven = "\x52"
)

// bye answers that it is over with an error.
func bye(e int) string {
	return "\x01" + u32(uint32(e)) + text("") + text("")
}

var (
	service = "\x05" + text("ssh-userauth")
	accept  = "\x06" + text("ssh-userauth")
	failure = "\x33" + text("publickey,password") + "\x00"
)

// global answers a wish that isn't the channel's, with a flag of any byte.
func global(name, flag string) string {
	return "\x50" + text(name) + flag
}

// password answers a request by a password.
func password(user, pass string) string {
	return "\x32" + text(user) + text("ssh-connection") + text("password") + "\x00" + text(pass)
}

// proof answers a request by a seed's key.
func proof(session, user, seed string) string {
	s := "\x32" + text(user) + text("ssh-connection") + text("publickey") + "\x01" + text("ssh-ed25519") + text(told(pubOf(seed)))
	return s + text(told(sigOf(seed, text(session)+s)))
}

// Messages of the channel, all to the number 0 (a side's, and the peer's too).
var (
	wish    = "\x5a" + text("session") + u32(0) + u32(4096) + u32(512)
	confirm = "\x5b" + u32(0) + u32(0) + u32(4096) + u32(512)
	netconf = "\x62" + u32(0) + text("subsystem") + "\x01" + text("netconf")
	runs    = "\x63" + u32(0)
	eof     = "\x60" + u32(0)
	closes  = "\x61" + u32(0)
)

// adjust answers that n bytes more may be sent.
func adjust(n int) string {
	return "\x5d" + u32(0) + u32(uint32(n))
}

// data answers bytes as a message.
func data(s string) string {
	return "\x5e" + u32(0) + text(s)
}
