package sieve_test

import (
	"reflect"
	"slices"
	"testing"

	"tabulary/api"
	"tabulary/model"
	"tabulary/sieve"
)

// scribble writes over all nodes, and into the room behind each list.
func scribble(l []api.Node) {
	for i := range l {
		scribble(l[i].Kids)
		l[i].Name, l[i].Value = "!", "!"
	}
	if len(l) < cap(l) {
		_ = append(l, value("!", "!"))
	}
}

// scribbleElems does the same to elements.
func scribbleElems(l []api.Elem) {
	for i := range l {
		scribbleElems(l[i].Kids)
		l[i].Space, l[i].Name, l[i].Text = "!", "!", "!"
	}
	if len(l) < cap(l) {
		_ = append(l, api.Elem{Name: "!"})
	}
}

// roomy answers the same nodes in lists with room behind them.
func roomy(l []api.Node) []api.Node {
	l = append(slices.Clone(l), value("room", "1"), value("room", "2"))[:len(l)]
	for i := range l {
		l[i].Kids = roomy(l[i].Kids)
	}
	return l
}

// rooms tells whether the room behind each list is as roomy left it.
func rooms(l []api.Node) bool {
	if behind := l[len(l) : len(l)+2]; behind[0].Value != "1" || behind[1].Value != "2" {
		return false
	}
	return !slices.ContainsFunc(l, func(n api.Node) bool { return !rooms(n.Kids) })
}

// roomyElems answers the same elements in lists with room behind them.
func roomyElems(l []api.Elem) []api.Elem {
	l = append(slices.Clone(l), api.Elem{Text: "1"}, api.Elem{Text: "2"})[:len(l)]
	for i := range l {
		l[i].Kids = roomyElems(l[i].Kids)
	}
	return l
}

// roomsElems tells whether the room behind each list is as roomyElems left it.
func roomsElems(l []api.Elem) bool {
	if behind := l[len(l) : len(l)+2]; behind[0].Text != "1" || behind[1].Text != "2" {
		return false
	}
	return !slices.ContainsFunc(l, func(e api.Elem) bool { return !roomsElems(e.Kids) })
}

// these are filters that choose nodes of full in all ways.
var these = []string{
	"",
	"<name/><port/><box/><none/>",
	"<port><name>a</name></port><port><name>c</name><at><side/></at></port>",
	"<port><on/></port><port><speed/></port><box><item><x>1</x><sub><k>k</k></sub></item></box>",
	"<box><item><note/></item></box><box><item><sub><v>1</v></sub></item></box><name>n</name>",
	"<box><color>red</color><box/></box><none/><zip/>",
	full,
}

// Rule 4: what is handed in isn't changed, nor the room behind its lists.
func TestLeavesWhatIsGiven(t *testing.T) {
	for _, f := range these {
		l, nodes, filter := town(), roomy(tree(t, town(), full)), roomyElems(elems(t, f))
		first := sieve.Filter(l, nodes, filter)
		if !alike(nodes, tree(t, l, full)) || !rooms(nodes) || !reflect.DeepEqual(l, town()) {
			t.Errorf("%s: what was handed in was changed: %v", f, nodes)
		}
		if !roomsElems(filter) || !reflect.DeepEqual(filter, roomyElems(elems(t, f))) {
			t.Errorf("%s: the filter was changed: %v", f, filter)
		}
		if again := sieve.Filter(l, nodes, filter); !alike(again, first) {
			t.Errorf("%s: asked anew: %v, want %v", f, again, first)
		}
	}
}

// Rule 4: an answer shares no memory with what was handed in, nor with another
// answer, and no two of its lists share any.
func TestSharesNothing(t *testing.T) {
	for _, f := range these {
		l, nodes, filter := town(), roomy(tree(t, town(), full)), roomyElems(elems(t, f))
		first, second, third := sieve.Filter(l, nodes, filter), sieve.Filter(l, nodes, filter), sieve.Filter(l, nodes, filter)
		want := model.Copy(first)
		for i := range first {
			apart(t, &first[i], first[i+1:], want[i+1:])
		}
		scribble(first)
		if !alike(nodes, tree(t, l, full)) || !rooms(nodes) || !alike(second, want) {
			t.Errorf("%s: an answer shares memory: %v, %v", f, nodes, second)
		}
		scribble(nodes)
		scribbleElems(filter)
		for i := range l {
			l[i].Name = "!"
			l[i].Keys = append(l[i].Keys[:0], "!")
		}
		if !alike(second, want) || !alike(third, want) {
			t.Errorf("%s: an answer keeps what was handed in: %v", f, second)
		}
	}
}

// apart fails the test if a list in a node shares memory with one of its lists, or
// of those behind it.
func apart(t *testing.T, n *api.Node, behind, want []api.Node) {
	t.Helper()
	own := model.Copy(n.Kids)
	for i := range n.Kids {
		apart(t, &n.Kids[i], n.Kids[i+1:], own[i+1:])
	}
	scribble(n.Kids)
	n.Kids = append(n.Kids, value("more", ""))
	if !alike(behind, want) {
		t.Errorf("two lists of one answer share memory: %v, want %v", behind, want)
	}
}
