package chans_test

import (
	"math/rand"
	"slices"
	"testing"

	"tabulary/api"
	"tabulary/chans"
)

// A walker does the same to an end and to a model of it.
type walker struct {
	rnd  *rand.Rand
	end  *chans.Chan
	want *model
	seen map[string]int // how often each call came to what
}

// some answers a number of a few that are often at an edge.
func some(rnd *rand.Rand, l ...uint32) uint32 {
	return l[rnd.Intn(len(l))]
}

// one answers a text of a few.
func one(rnd *rand.Rand, l ...string) string {
	return l[rnd.Intn(len(l))]
}

// someSize answers a number of bytes.
func (w *walker) someSize() int {
	return []int{0, 1, w.rnd.Intn(20), w.rnd.Intn(600), 511, 512, 513, int(w.want.room), int(w.want.room) + 1, w.rnd.Intn(5000)}[w.rnd.Intn(10)]
}

// someAmount answers how much a window may be, or be widened by.
func (w *walker) someAmount() uint32 {
	left := uint32(1<<31 - 1 - w.want.window)
	return some(w.rnd, 0, 1, 3, uint32(w.rnd.Intn(1000)), 512, 4096, 4096, 1<<30, 1<<30+1, left, left+1, 1<<31, 1<<32-1)
}

// message answers a message that is often right.
func (w *walker) message() string {
	rnd := w.rnd
	to := some(rnd, 0, 0, 0, 0, 0, 0, 0, 0, 0, 1, 1<<32-1)
	number := some(rnd, 0, 5, rnd.Uint32())
	most := some(rnd, 0, 1, 2, 100, 511, 512, 513, 1<<32-1)
	l := []string{
		wish(one(rnd, "session", "session", "session", "x"), number, w.someAmount(), most),
		confirm(to, number, w.someAmount(), most),
		adjust(to, w.someAmount()),
		adjust(to, w.someAmount()),
		data(to, long(w.someSize())),
		data(to, long(w.someSize())),
		data(to, long(w.someSize())),
		request(to, one(rnd, "subsystem", "subsystem", "subsystem", "x"), one(rnd, "\x00", "\x01", "\x80"), one(rnd, text("netconf"), text("netconf"), text("x"), "", "\x00", text("netconf")+"\x00")),
		success(to),
	}
	if rnd.Intn(12) == 0 {
		l = []string{eof(to), bye(to), failure(to), refuse(to), "\x5c" + u32(to), "\x5f" + u32(to), ""}
	}
	p := l[rnd.Intn(len(l))]
	switch rnd.Intn(20) {
	case 0:
		p = p[:rnd.Intn(len(p)+1)]
	case 1:
		p += one(rnd, "\x00", "x", text(""))
	}
	return p
}

// step makes one call; what it came to is told as a text.
func (w *walker) step() (string, api.Errno, api.Errno) {
	switch n := w.rnd.Intn(100); {
	case n < 55:
		p := w.message()
		if p == "" {
			return "Take of nothing", w.end.Take(nil), w.want.take(p)
		}
		return "Take " + string(p[:1]), w.end.Take([]byte(p)), w.want.take(p)
	case n < 75:
		s := long(w.someSize())
		return "Send", w.end.Send([]byte(s)), w.want.send(s)
	case n < 95:
		got, want := string(w.end.Recv()), w.want.recv()
		if got != want {
			return "Recv", api.ErrArg, api.OK
		}
		return "Recv", api.OK, api.OK
	case n < 97:
		return "Begin", w.end.Begin(), w.want.begin()
	}
	if w.rnd.Intn(3) > 0 {
		return "Recv", api.OK, api.OK
	}
	return "Close", w.end.Close(), w.want.shut()
}

// same tells whether the end stands as the model does; each is asked for what
// goes out now and then.
func (w *walker) same() bool {
	if w.end.State() != w.want.state || w.end.Ready() != w.want.ready || w.end.Pending() != len(w.want.waits) {
		return false
	}
	if w.rnd.Intn(3) > 0 {
		return true
	}
	var got []string
	for _, p := range w.end.Out() {
		got = append(got, string(p))
	}
	want := w.want.out
	w.want.out = nil
	return slices.Equal(got, want)
}

// start brings a walk often as far as the subsystem.
func (w *walker) start() {
	number, window, most := some(w.rnd, 0, 7), w.someAmount(), some(w.rnd, 1, 3, 512, 513)
	l := []string{wish("session", number, window, most), netconf(0)}
	if !w.want.server {
		w.end.Begin()
		w.want.begin()
		l = []string{confirm(0, number, window, most), success(0)}
	}
	for _, p := range l[:w.rnd.Intn(len(l)+1)] {
		w.end.Take([]byte(p))
		w.want.take(p)
	}
}

// P10.1: ends with which is done, and to which is said, what one likes, in any
// order, step by step against what should come of it.
func TestAnyOrder(t *testing.T) {
	rnd := rand.New(rand.NewSource(2))
	seen := map[string]int{}
	for range 2500 {
		server := rnd.Intn(2) == 0
		w := &walker{rnd: rnd, end: chans.New(server), want: &model{server: server}}
		if rnd.Intn(8) > 0 {
			w.start()
		}
		for range 40 {
			what, got, want := w.step()
			if got != want || !w.same() {
				t.Fatalf("%q of %+v: %d, %d, %v, %d pending; want %d", what, *w.want, got, w.end.State(), w.end.Ready(), w.end.Pending(), want)
			}
			seen[what+" "+want.Error()]++
		}
	}
	// Each of ten messages, nothing and byte 95, and each call.
	for kind := 90; kind <= 100; kind++ {
		enough(t, seen, "Take "+string([]byte{byte(kind)}), kind != 95)
	}
	enough(t, seen, "Send", true)
	enough(t, seen, "Close", true)
	enough(t, seen, "Begin", true)
}

// enough fails the test unless its own steps came to an error of a call, and to
// none, often enough.
func enough(t *testing.T, seen map[string]int, what string, right bool) {
	t.Helper()
	good := seen[what+" "+api.OK.Error()]
	bad := seen[what+" "+api.ErrForm.Error()] + seen[what+" "+api.ErrState.Error()]
	if bad < 30 || right && good < 30 {
		t.Errorf("the test's own steps: %q was right %d times, wrong %d times", what, good, bad)
	}
}
