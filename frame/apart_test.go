package frame_test

import (
	"math/big"
	"regexp"
	"strconv"
	"strings"
	"testing"

	"tabulary/api"
	"tabulary/frame"
)

// What a decoder should answer, reckoned apart from the package, as the
// chapter's words have it: of all bytes since the last message, each time anew.
type model struct {
	all          string
	chunks, over bool
}

var (
	rightStart = regexp.MustCompile(`\A(\n(#|\z)|\z)`)
	rightHead  = regexp.MustCompile(`\A\n#([1-9][0-9]{0,6})\z`)
)

func (m *model) next() (string, api.Errno) {
	if m.over {
		return "", api.ErrOver
	}
	look := m.first
	if m.chunks {
		look = m.chunked
	}
	msg, length, e := look()
	m.all = m.all[length:]
	m.over = e == api.ErrLen || e == api.ErrForm
	return msg, e
}

// first answers a message of the first framing, and how many bytes it and its
// end are.
func (m *model) first() (string, int, api.Errno) {
	l := strings.SplitN(m.all, "]]>]]>", 2)
	switch {
	case len(l) == 2 && len(l[0]) > 16384:
		return "", 0, api.ErrLen
	case len(l) == 2:
		return l[0], len(l[0]) + 6, api.OK
	case len(m.all) >= 16390:
		return "", 0, api.ErrLen
	}
	return "", 0, api.ErrWait
}

// headAt answers the head that begins at a place, and whether it is all there.
func (m *model) headAt(at int) (string, bool) {
	rest := m.all[at:]
	if rest == "" {
		return "", false
	}
	l := strings.SplitN(rest[1:], "\n", 2)
	return rest[:1] + l[0], len(l) == 2
}

// chunked answers a message of chunks, and how many bytes they are.
func (m *model) chunked() (string, int, api.Errno) {
	msg, at := "", 0
	for {
		head, found := m.headAt(at)
		if !rightStart.MatchString(head) || len(head) > 9 {
			return "", 0, api.ErrForm
		}
		if !found {
			return "", 0, api.ErrWait
		}
		at += len(head) + 1
		if head == "\n##" {
			if msg == "" {
				return "", 0, api.ErrForm
			}
			return msg, at, api.OK
		}
		l := rightHead.FindStringSubmatch(head)
		if l == nil {
			return "", 0, api.ErrForm
		}
		size, _ := new(big.Int).SetString(l[1], 10)
		if n := int(size.Int64()); len(msg)+n > 16384 {
			return "", 0, api.ErrLen
		} else if at+n > len(m.all) {
			return "", 0, api.ErrWait
		} else {
			msg += m.all[at : at+n]
			at += n
		}
	}
}

// chunk answers one chunk.
func chunk(s string) string {
	return "\n#" + strconv.Itoa(len(s)) + "\n" + s
}

// chunks answers a message as these chunks.
func chunks(l ...string) string {
	var b strings.Builder
	for _, s := range l {
		b.WriteString(chunk(s))
	}
	return b.String() + "\n##\n"
}

// long answers a text of n bytes, no two parts of which are alike for long.
func long(n int) string {
	var b strings.Builder
	for i := 0; b.Len() < n; i++ {
		b.WriteString(strconv.Itoa(i) + ";")
	}
	return b.String()[:n]
}

// begun answers a decoder, with chunks or without, to which a text was fed.
func begun(chunked bool, s string) *frame.Decoder {
	d := new(frame.Decoder)
	if chunked {
		d.Switch()
	}
	d.Feed([]byte(s))
	return d
}

// short answers a text as it is told when a test fails.
func short(s string) string {
	if len(s) > 60 {
		s = s[:60] + "... (" + strconv.Itoa(len(s)) + ")"
	}
	return strconv.Quote(s)
}

// tells fails the test unless these are the next messages.
func tells(t *testing.T, d *frame.Decoder, l ...string) {
	t.Helper()
	for i, want := range l {
		if got, e := d.Next(); got != want || e != api.OK {
			t.Fatalf("message %d: %s, %d, want %s", i, short(got), e, short(want))
		}
	}
}

// waits fails the test unless no message is whole, however often it is asked.
func waits(t *testing.T, d *frame.Decoder) {
	t.Helper()
	for range 2 {
		if got, e := d.Next(); got != "" || e != api.ErrWait {
			t.Fatalf("%s, %d, want ErrWait", short(got), e)
		}
	}
}

// fails fails the test unless the next answer is this error, and all behind it
// are ErrOver, whatever comes.
func fails(t *testing.T, d *frame.Decoder, want api.Errno) {
	t.Helper()
	if got, e := d.Next(); got != "" || e != want {
		t.Fatalf("%s, %d, want %d", short(got), e, want)
	}
	for range 2 {
		isOver(t, d)
		d.Feed([]byte("x]]>]]>"))
		isOver(t, d)
		d.Switch()
		isOver(t, d)
		d.Feed([]byte(chunks("x")))
	}
}

func isOver(t *testing.T, d *frame.Decoder) {
	t.Helper()
	if got, e := d.Next(); got != "" || e != api.ErrOver {
		t.Fatalf("%s, %d, want ErrOver", short(got), e)
	}
}
