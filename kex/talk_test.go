package kex_test

import (
	"bytes"
	"math/rand"
	"slices"
	"strings"
	"testing"

	"tabulary/kex"
	"tabulary/packet"
)

// counted answers 32 bytes: the first ones, and from there on each one's place.
func counted(first ...byte) []byte {
	for len(first) < 32 {
		first = append(first, byte(len(first)))
	}
	return first
}

// fixed answers a talk whose hash and keys were reckoned elsewhere.
func fixed(shared []byte) kex.Talk {
	return kex.Talk{
		Lines:  [2]string{"SSH-2.0-tabulary", "SSH-2.0-other"},
		Inits:  [2][]byte{kex.Init(kex.Own(), "c"), kex.Init(kex.Own(), "s")},
		Host:   kex.Blob(strings.Repeat("\x11", 32)),
		Shares: [2]string{strings.Repeat("\x22", 32), strings.Repeat("\x33", 32)},
		Shared: shared,
	}
}

// P8.1: the hash and the keys of talks, whose shared number has its first bit 0,
// or 1, or zeros ahead, or is 0. The keys stand as letters A, C, E, B, D, F.
func TestHashAndKeys(t *testing.T) {
	for _, c := range []struct {
		shared []byte
		hash   string
		keys   [6]string
	}{
		{counted(), "a649b5e9213f7ba2c1cda194587341cdc792b91329d05dafbc39e6e4de679dbc", [6]string{
			"d8b4285b167a3b34a72efa26fd85887c", "47c8b376a9b14a334a42c81f7f430662", "bc2995d3fde77827f58acb56af0545d03c9a97a7882af1493c8060a6bad05b8b",
			"e078e4720ca0c7c301e9be0696899849", "b2046d69b884b7d84fb589bf41f8f41d", "7eb4a886d2bccad435b8c30632625978b23c890fbb369d89ef9e9b4ffc789e74"}},
		{counted(0x80), "11e44816fb5d8a3bfc9b8ac0f61b843a7fbc056446202e4bc05945f802c457f2", [6]string{
			"ec07b515714eabd2d8b6e2b7bfc78258", "fedf95f08c333f9f8779cacfbf0c3260", "db02fba7b903f2ed31af5de675055d16a4b0102f3032adb322d0b65cc03b9974",
			"7a8ee6c4c548ed82af53094729081f1a", "414daf34a4f018eaa6521a6c08ccb232", "023a320065c5ea92f40d8233c7424474d30592ce04eb9fe705600159b98dfda0"}},
		{counted(0, 0x80), "def5210524a9f14d1d308699e6b3f24f7920cb5f5e836067dac6432767daaee7", [6]string{
			"d7babfdc08816be35c9d7a7f9430d0a4", "d56f097766594f8e4782020db0eb0b21", "8dc02ed0feae0dcf64d28766f9ab8a316d65e389752c13eb7cddecc6fb56849d",
			"9af91de4a21dc87ffeab66180fee6abd", "2412c6d564e1725fa2c46b91afef416e", "faa385a94d4bba1fa8f5e3185949ebf74e28e2f09a98c800cca21ca1dd27e34e"}},
		{make([]byte, 32), "569ed1d83ef106d066a66e7c80a6f537c9128575f90b53605fc074b0dbf6927d", [6]string{
			"5e3c391e3def01ae720001c63e7e6b1d", "92fdecf7e8071a8c0bf3001036062f5f", "a9719390afb646cefcebb207492912c142d4301b841735608c7fa4e6317e7049",
			"5ab5f84c2ae7e1e1d9dbdcf1adf87414", "e5b78c15ec79c1477a11d5a43d5cc4ad", "93d06c6ac8bc0a0d9bf7e947b636fca80bb3895f92c0ebff6f9527cfb319a13c"}},
		{append([]byte{0x7f}, bytes.Repeat([]byte{0xff}, 31)...), "3cd70a72aab50a5a957913bceb9a01fcd495a77e925c817c4fd167a3b6fea2a6", [6]string{
			"f707a067f785c06dead961cdaafe1100", "344885ccf51f9d1dcf707e295b1da082", "4f51bd09a45bdb4ece86baaa06fb2c1ab9b941d7857aca97ab56a8927524757e",
			"dbf0c9a4d19baf33dbe16b6586b04169", "769053bb6d9378c507c0cb6f603a6e8e", "e29b7173ca096e6e2ed6d88ef5df636517dd42636dabdf2c14509baef0783276"}},
	} {
		talk := fixed(c.shared)
		isBytes(t, "Hash", kex.Hash(talk), unhex(t, c.hash))
		isKeys(t, "Keys", kex.Keys(talk, bytes.Repeat([]byte{0x44}, 32)), [2]packet.Keys{
			{Iv: unhex(t, c.keys[0]), Key: unhex(t, c.keys[1]), Mac: unhex(t, c.keys[2])},
			{Iv: unhex(t, c.keys[3]), Key: unhex(t, c.keys[4]), Mac: unhex(t, c.keys[5])},
		})
	}
}

// P8.1: talks and sessions of any bytes; an empty one too.
func TestHashAndKeysOfAny(t *testing.T) {
	rnd := rand.New(rand.NewSource(5))
	talks := []kex.Talk{{}}
	for range 300 {
		talk := someTalk(rnd, someBytes(rnd, 32))
		clear(talk.Shared[:rnd.Intn(4)])
		talks = append(talks, talk)
	}
	for _, talk := range talks {
		session := someBytes(rnd, rnd.Intn(40))
		isBytes(t, "Hash", kex.Hash(talk), []byte(hashOf(talk)))
		isKeys(t, "Keys", kex.Keys(talk, session), keysOf(talk, session))
	}
}

// others answers talks each of which differs from t in one of its parts.
func others(t kex.Talk) []kex.Talk {
	var all []kex.Talk
	change := func(f func(t *kex.Talk)) {
		other := t
		f(&other)
		all = append(all, other)
	}
	for i := range 2 {
		change(func(t *kex.Talk) { t.Lines[i] += "x" })
		change(func(t *kex.Talk) { t.Inits[i] = append(bytes.Clone(t.Inits[i]), 'x') })
		change(func(t *kex.Talk) { t.Shares[i] = "x" + t.Shares[i][1:] })
	}
	change(func(t *kex.Talk) { t.Host += "x" })
	change(func(t *kex.Talk) { t.Shared = append(bytes.Clone(t.Shared[:31]), t.Shared[31]^1) })
	change(func(t *kex.Talk) { slices.Reverse(t.Lines[:]) })
	change(func(t *kex.Talk) { slices.Reverse(t.Inits[:]) })
	change(func(t *kex.Talk) { slices.Reverse(t.Shares[:]) })
	change(func(t *kex.Talk) { // the same bytes, cut elsewhere
		last := len(t.Lines[0]) - 1
		t.Lines[0], t.Lines[1] = t.Lines[0][:last], t.Lines[0][last:]+t.Lines[1]
	})
	return all
}

// P8.2: who has the same talk has the same keys; with another one, whichever
// part differs, each key is another one.
func TestSameTalkSameKeys(t *testing.T) {
	rnd := rand.New(rand.NewSource(6))
	talk := someTalk(rnd, someBytes(rnd, 32))
	same := talk
	same.Inits = [2][]byte{bytes.Clone(talk.Inits[0]), bytes.Clone(talk.Inits[1])}
	same.Shared = bytes.Clone(talk.Shared)
	session := kex.Hash(talk)
	isBytes(t, "Hash", kex.Hash(same), session)
	isKeys(t, "Keys", kex.Keys(same, kex.Hash(same)), kex.Keys(talk, session))
	for i, other := range others(talk) {
		if bytes.Equal(kex.Hash(other), session) {
			t.Errorf("talk %d has the same hash", i)
		}
		differ(t, kex.Keys(other, session), kex.Keys(talk, session))
	}
	differ(t, kex.Keys(talk, session[1:]), kex.Keys(talk, session))
	differ(t, kex.Keys(talk, nil), kex.Keys(talk, session))
}

// differ fails the test if two keys are the same.
func differ(t *testing.T, a, b [2]packet.Keys) {
	t.Helper()
	for i := range a {
		if bytes.Equal(a[i].Iv, b[i].Iv) || bytes.Equal(a[i].Key, b[i].Key) || bytes.Equal(a[i].Mac, b[i].Mac) {
			t.Errorf("keys %d have one in common", i)
		}
	}
}

// P8.1: what was handed in stays, the room behind it too; what is answered is
// new memory, none of it shared.
func TestHashAndKeysShare(t *testing.T) {
	rnd := rand.New(rand.NewSource(7))
	talk := someTalk(rnd, someBytes(rnd, 32))
	rooms := [][]byte{someBytes(rnd, 100), someBytes(rnd, 100), someBytes(rnd, 100), someBytes(rnd, 100)}
	talk.Inits[0], talk.Inits[1], talk.Shared = rooms[0][:50], rooms[1][:50], rooms[2][:32]
	session := rooms[3][:32]
	kept := slices.Concat(rooms...)
	hash, keys := kex.Hash(talk), kex.Keys(talk, session)
	isBytes(t, "what was handed in", slices.Concat(rooms...), kept)
	for _, b := range [][]byte{keys[0].Iv, keys[0].Key, keys[0].Mac, keys[1].Iv, keys[1].Key} {
		clear(b[:cap(b)])
	}
	isBytes(t, "the last key", keys[1].Mac, keysOf(talk, session)[1].Mac)
	clear(hash)
	clear(keys[1].Mac)
	isBytes(t, "Hash anew", kex.Hash(talk), []byte(hashOf(talk)))
	isKeys(t, "Keys anew", kex.Keys(talk, session), keysOf(talk, session))
}
