package tunnel_test

import (
	"math/rand"
	"strings"
	"testing"

	"tabulary/api"
	"tabulary/chans"
	"tabulary/tunnel"
)

// A walker has a peer and a side do anything that may be, and holds all that
// goes out of the side against a model of it, whose channel is layer 10's.
type walker struct {
	*peer
	rnd     *rand.Rand
	end     *chans.Chan
	trading bool
	known   bool     // whether the side knows the peer's offer
	offered bool     // whether the peer said it, and not its MsgNewKeys yet
	count   int      // packets of the side under its keys
	waits   []string // payloads that wait for the trade's end
	expect  []string // payloads that should have gone out
	met     talk     // of the last MsgNewKeys of the side
	under   []string // payloads of the peer under way,
	bytes   []string // and their packets
	sent    int      // bytes of the channel's data that the peer may still send
	seldom  bool     // whether trades are begun seldom
	seen    map[string]int
}

// newWalker answers a walker whose side's subsystem runs.
func newWalker(t *testing.T, plan tunnel.Plan, rnd *rand.Rand) *walker {
	w := &walker{peer: ready(t, plan), rnd: rnd, end: chans.New(plan.Server), sent: 4096, seen: map[string]int{}}
	w.count = int(w.hears.number) - 3
	says := []string{wish, netconf}
	if !plan.Server {
		w.end.Begin()
		says = []string{confirm, runs}
	}
	for _, s := range says {
		w.end.Take([]byte(s))
	}
	w.end.Out()
	return w
}

// writes has the model write a payload.
func (w *walker) writes(s string) {
	w.expect = append(w.expect, s)
	w.count++
	if s == newKeys {
		w.count = 0
	}
}

// tells has the model say a payload besides the trade's.
func (w *walker) tells(s string) {
	if w.trading {
		w.waits = append(w.waits, s)
		w.seen["waits"]++
		return
	}
	w.writes(s)
}

// flows has the model say what its channel says.
func (w *walker) flows() {
	for _, p := range w.end.Out() {
		w.tells(string(p))
	}
}

// begins has the model begin a trade.
func (w *walker) begins() {
	w.trading = true
	w.trades++
	_, o := secretOf(w.plan.Draw, w.trades)
	w.talk.inits[1-w.own()] = o
	w.writes(o)
}

// due has the model begin a trade, if one is due.
func (w *walker) due() {
	if !w.trading && w.count >= api.RekeyAfter {
		w.seen["due"]++
		w.begins()
	}
}

// takes has the model hear a payload.
func (w *walker) takes(s string) {
	switch s[0] {
	case 0x02:
	case 0x14:
		if !w.trading {
			w.seen["their trade"]++
			w.begins()
		}
		w.known = true
		if !w.plan.Server {
			w.writes("\x1e" + text(w.share()))
		}
	case 0x1e:
		w.met = w.talk
		w.writes(w.reply())
		w.writes(newKeys)
	case 0x1f:
		w.met = w.talk
		w.writes(newKeys)
	case 0x15:
		w.trading, w.known = false, false
		l := w.waits
		w.waits = nil
		for _, s := range l {
			w.writes(s)
		}
	case 0x50:
		if s[len(s)-1] == 1 {
			w.tells(notGiven)
		}
	default:
		if e := w.end.Take([]byte(s)); e != api.OK {
			w.t.Fatalf("the test's own peer says %q", s)
		}
		w.flows()
	}
}

// queue lays payloads of the peer on the way.
func (w *walker) queue(l ...string) {
	for _, s := range l {
		w.under, w.bytes = append(w.under, s), append(w.bytes, w.sealed(s))
	}
}

// carries brings what is under way to the side, in pieces, and to the model.
func (w *walker) carries() {
	w.t.Helper()
	all := strings.Join(w.bytes, "")
	fed, whole := 0, 0
	for fed < len(all) {
		n := min(len(all)-fed, []int{1, 1 + w.rnd.Intn(100), 100000}[w.rnd.Intn(3)])
		w.side.Feed([]byte(all[fed : fed+n]))
		fed += n
		for len(w.bytes) > 0 && whole+len(w.bytes[0]) <= fed {
			whole += len(w.bytes[0])
			w.takes(w.under[0])
			w.under, w.bytes = w.under[1:], w.bytes[1:]
		}
		w.due()
		w.holds()
	}
}

// holds fails the test unless just that went out of the side which should have.
func (w *walker) holds() {
	w.t.Helper()
	for _, want := range w.expect {
		w.first(want)
		w.watches(want)
		if want == newKeys {
			w.hears.take(w.met, w.session, 1-w.own())
		}
	}
	w.expect = nil
	w.wants()
	w.is(tunnel.Chan, api.OK)
	if w.side.Shut() != (w.end.State() == chans.Shut) {
		w.t.Fatal("Shut is another one than the channel's")
	}
}

// watches keeps account of how much the peer may send.
func (w *walker) watches(s string) {
	if strings.HasPrefix(s, adjust(0)[:5]) {
		w.sent += int(s[6])<<16 + int(s[7])<<8 + int(s[8])
	}
}

// speaks has the peer say something besides the trade's messages.
func (w *walker) speaks() {
	switch w.rnd.Intn(6) {
	case 0, 1:
		n := min(w.sent, w.rnd.Intn(513))
		w.sent -= n
		w.queue(data(strings.Repeat("d", n)))
	case 2, 3:
		w.queue(adjust(w.rnd.Intn(1500)))
	case 4:
		w.queue(global("x", []string{"\x00", "\x01"}[w.rnd.Intn(2)]))
	case 5:
		w.queue(ignored)
	}
}

// trade has the peer go on with the trade, or begin one.
func (w *walker) trade() {
	w.carries()
	switch {
	case !w.offered:
		w.offered = true
		w.secret = drawn("secret", uint64(w.rnd.Intn(1000)))
		w.talk.inits[w.own()] = offer(drawn("peer", uint64(w.rnd.Intn(1000))), ownLists)
		if w.trading {
			w.seen["crossing"]++
		}
		w.queue(w.talk.inits[w.own()])
	case w.known && w.met != w.talk:
		w.share()
		if w.plan.Server {
			w.queue(w.ask())
			w.carries()
		} else {
			w.queue(w.reply())
		}
		if w.rnd.Intn(2) == 0 {
			w.carries()
			return
		}
		w.closesTrade()
	case w.known:
		w.closesTrade()
	}
}

// closesTrade has the peer say its MsgNewKeys.
func (w *walker) closesTrade() {
	w.queue(newKeys)
	w.says.take(w.talk, w.session, w.own())
	w.offered = false
	w.seen["trade"]++
}

// rests tells whether no trade should be begun now.
func (w *walker) rests() bool {
	return w.seldom && w.rnd.Intn(1000) > 0
}

// step does something.
func (w *walker) step() {
	w.t.Helper()
	switch n := w.rnd.Intn(100); {
	case n < 25:
		w.carries()
		s := strings.Repeat("s", []int{0, 1, w.rnd.Intn(30), w.rnd.Intn(3000)}[w.rnd.Intn(4)])
		if got, want := w.side.Send([]byte(s)), w.end.Send([]byte(s)); got != want {
			w.t.Fatalf("Send: %d, want %d", got, want)
		}
		w.flows()
	case n < 40:
		w.carries()
		if got, want := string(w.side.Recv()), string(w.end.Recv()); got != want {
			w.t.Fatalf("Recv: %q, want %q", got, want)
		}
		w.flows()
	case n < 45 && !w.rests():
		w.carries()
		want := api.ErrState
		if !w.trading {
			want = api.OK
			w.begins()
		}
		if got := w.side.Rekey(); got != want {
			w.t.Fatalf("Rekey: %d, want %d", got, want)
		}
	case n < 60 && (w.trading || !w.rests()):
		w.trade()
	case !w.offered:
		w.speaks()
	}
	w.due()
	if len(w.under) == 0 {
		w.holds()
	}
}

// P11.2, and the words of trades: a random walk of a side at Chan, held against
// a model of it: what goes out, in which order, and under which keys.
func TestWalk(t *testing.T) {
	rnd := rand.New(rand.NewSource(1))
	seen := map[string]int{}
	for i := range 24 {
		w := newWalker(t, bothPlans[i%2], rnd)
		w.seldom = i%4 > 1
		for range 800 {
			w.step()
		}
		w.carries()
		w.holds()
		for k, n := range w.seen {
			seen[k] += n
		}
	}
	t.Log(seen)
	for _, k := range []string{"waits", "due", "their trade", "crossing", "trade"} {
		if seen[k] < 10 {
			t.Errorf("the test's own steps: %s %d times", k, seen[k])
		}
	}
}
