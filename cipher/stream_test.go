package cipher_test

import (
	"bytes"
	"math/rand"
	"testing"

	"tabulary/api"
	"tabulary/cipher"
)

// P6.1: a key and a counter have 16 bytes, neither fewer nor more.
func TestNewOfWrongLengths(t *testing.T) {
	room := make([]byte, 300)
	for _, k := range []int{0, 1, 8, 15, 16, 17, 24, 31, 32, 33, 256, 272} {
		for _, c := range []int{0, 1, 8, 15, 16, 17, 24, 31, 32, 33, 256, 272} {
			s, e := cipher.New(room[:k], room[:c])
			if k == 16 && c == 16 {
				if s == nil || e != api.OK {
					t.Errorf("of 16 and 16 bytes: %v, %d", s, e)
				}
			} else if s != nil || e != api.ErrLen {
				t.Errorf("of %d and %d bytes: %v, %d, want ErrLen", k, c, s, e)
			}
		}
	}
	for _, c := range [][2][]byte{{nil, nil}, {room[:16], nil}, {nil, room[:16]}} {
		if s, e := cipher.New(c[0], c[1]); s != nil || e != api.ErrLen {
			t.Errorf("of %d and %d bytes, nil: %v, %d, want ErrLen", len(c[0]), len(c[1]), s, e)
		}
	}
}

// P6.1: of a nil *Stream: zeros; none.
func TestNilStream(t *testing.T) {
	var s *cipher.Stream
	if b := s.Block([16]byte{1, 2, 3}); b != [16]byte{} {
		t.Errorf("Block of nil: %x", b)
	}
	for _, b := range [][]byte{nil, {}, {1}, make([]byte, 100)} {
		if got := s.Turn(b); len(got) != 0 {
			t.Errorf("Turn of nil, of %d bytes: %x", len(b), got)
		}
	}
}

// P0: a stream that New didn't make doesn't panic.
func TestDeclaredStream(t *testing.T) {
	var s cipher.Stream
	s.Block([16]byte{})
	for n := range 40 {
		s.Turn(make([]byte, n))
	}
}

// The fourth rule: what is handed in isn't changed, the room behind it neither.
func TestNothingIsChanged(t *testing.T) {
	whole := bytes.Repeat([]byte{'#'}, 300)
	s := stream(t, whole[:16], whole[50:66])
	s.Turn(whole[100:150])
	s.Turn(whole[160:160])
	s.Turn(whole[170:171])
	s.Block([16]byte(whole[200:]))
	if !bytes.Equal(whole, bytes.Repeat([]byte{'#'}, 300)) {
		t.Errorf("what was handed in was changed: %q", whole)
	}
}

// The fourth rule: a key and a counter aren't kept, nor is what is turned, and
// what is answered is new memory.
func TestNothingIsKept(t *testing.T) {
	rnd := rand.New(rand.NewSource(9))
	key, count, text := someBytes(rnd, 16), someBytes(rnd, 16), someBytes(rnd, 120)
	want := byLibrary(t, key, count, text)
	block := stream(t, key, count).Block([16]byte(text))
	k, c, all := bytes.Clone(key), bytes.Clone(count), bytes.Clone(text)
	s := stream(t, k, c)
	clear(k)
	clear(c)
	if s.Block([16]byte(all)) != block {
		t.Error("the key is kept")
	}
	for i := 0; i < len(all); i += 10 {
		got := s.Turn(all[i : i+10])
		if !bytes.Equal(got, want[i:i+10]) || !bytes.Equal(all[i:], text[i:]) {
			t.Errorf("at %d: %x, want %x", i, got, want[i:i+10])
		}
		clear(got[:cap(got)])
		clear(all[:i+10])
	}
}

// The eighth rule: a stream hangs on its own calls alone.
func TestStreamsApart(t *testing.T) {
	rnd := rand.New(rand.NewSource(10))
	key, count, text := someBytes(rnd, 16), someBytes(rnd, 16), someBytes(rnd, 64)
	want := byLibrary(t, key, count, text)
	one, two := stream(t, key, count), stream(t, key, count)
	other := stream(t, someBytes(rnd, 16), someBytes(rnd, 16))
	for i := range text {
		a, b := one.Turn(text[i:i+1]), two.Turn(text[i:i+1])
		other.Turn(text[:i])
		cipher.New(key[:15], count)
		if a[0] != want[i] || b[0] != want[i] {
			t.Errorf("byte %d: %x and %x, want %x", i, a, b, want[i])
		}
	}
}
