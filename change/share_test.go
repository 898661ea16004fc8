package change_test

import (
	"slices"
	"testing"

	"tabulary/api"
	"tabulary/change"
	"tabulary/model"
)

// scribble writes over all nodes, and into the room behind each list.
func scribble(l []api.Node) {
	for i := range l {
		scribble(l[i].Kids)
		l[i].Name, l[i].Value = "!", "!"
	}
	if len(l) < cap(l) {
		_ = append(l, api.Node{Name: "!"})
	}
}

// scribbleChanges does the same to changes.
func scribbleChanges(l []api.Change) {
	for i := range l {
		scribbleChanges(l[i].Kids)
		l[i].Name, l[i].Value, l[i].Op = "!", "!", 9
	}
	if len(l) < cap(l) {
		_ = append(l, api.Change{Name: "!"})
	}
}

// scribbleElems does the same to elements.
func scribbleElems(l []api.Elem) {
	for i := range l {
		scribbleElems(l[i].Kids)
		for j := range l[i].Attrs {
			l[i].Attrs[j] = api.Attr{Name: "!", Value: "!"}
		}
		l[i].Space, l[i].Name, l[i].Text = "!", "!", "!"
	}
}

// roomy answers the same nodes in lists with room behind them.
func roomy(l []api.Node) []api.Node {
	l = append(slices.Clone(l), api.Node{Value: "1"}, api.Node{Value: "2"})[:len(l)]
	for i := range l {
		l[i].Kids = roomy(l[i].Kids)
	}
	return l
}

// rooms tells whether the room behind each list is as roomy left it.
func rooms(l []api.Node) bool {
	if behind := l[len(l) : len(l)+2]; behind[0].Value != "1" || behind[1].Value != "2" {
		return false
	}
	return !slices.ContainsFunc(l, func(n api.Node) bool { return !rooms(n.Kids) })
}

// roomyChanges answers the same changes in lists with room behind them.
func roomyChanges(l []api.Change) []api.Change {
	l = append(slices.Clone(l), api.Change{Value: "1"}, api.Change{Value: "2"})[:len(l)]
	for i := range l {
		l[i].Kids = roomyChanges(l[i].Kids)
	}
	return l
}

// roomsChanges tells whether the room behind each list is as roomyChanges left it.
func roomsChanges(l []api.Change) bool {
	if behind := l[len(l) : len(l)+2]; behind[0].Value != "1" || behind[1].Value != "2" {
		return false
	}
	return !slices.ContainsFunc(l, func(c api.Change) bool { return !roomsChanges(c.Kids) })
}

// these are edits that reach all kinds of nodes of full, and make others.
var these = []string{
	"",
	"<name>m</name><size operation='delete'/>",
	"<name operation='remove'/>",
	"<port><name>a</name><at><deep><on>false</on></deep></at></port><port><name>0</name></port><port operation='delete'><name>b</name></port>",
	"<port operation='replace'><name>a</name><at><side>right</side></at></port>",
	"<box><item operation='delete'><x>1</x><y>2</y></item><item><y>9</y><x>0</x></item><color>green</color></box>",
	"<box><item><y>2</y><x>1</x><sub><k>a</k></sub><sub operation='delete'><k>k</k></sub><note operation='delete'/></item></box>",
	"<box operation='replace'><color>red</color></box><empty><in><leaf>x</leaf></in></empty>",
	"<box operation='remove'/><port operation='create'><name>c</name><at operation='create'><side>left</side></at></port>",
}

// wrong are edits of full whose last change can't be made, behind some that can.
var wrong = []string{
	"<name>m</name><size operation='create'>1</size>",
	"<box><item operation='delete'><x>1</x><y>2</y></item><color operation='create'>green</color></box>",
	"<port operation='delete'><name>a</name></port><port operation='delete'><name>a</name></port>",
	"<port><name>a</name><at operation='delete'/><speed operation='create'>1</speed></port>",
	"<box operation='replace'><item operation='delete'><x>1</x><y>2</y></item></box>",
}

// P15.1: the tree that was handed in isn't changed, nor the room behind its lists,
// the changes or the schema (rule 4), with an error neither.
func TestApplyLeavesWhatIsGiven(t *testing.T) {
	for _, edit := range append(slices.Clone(these), wrong...) {
		l, want := town(), tree(t, town(), full)
		nodes := roomy(want)
		c, e := change.Read(l, elems(t, edit), api.OpMerge)
		if e != api.OK {
			t.Fatal(edit, e)
		}
		given := roomyChanges(c)
		before := changesAnew(c)
		got, e := change.Apply(l, nodes, given)
		if (e != api.OK) != slices.Contains(wrong, edit) {
			t.Fatal(edit, e)
		}
		if !alike(nodes, want) || !rooms(nodes) || !alikeChanges(given, before) || !roomsChanges(given) || !alikeDefs(l, town()) {
			t.Errorf("%s: what was handed in was changed: %v, %v", edit, nodes, given)
		}
		again, _ := change.Apply(l, nodes, given)
		if !alike(again, got) {
			t.Errorf("%s: made anew: %v, want %v", edit, again, got)
		}
	}
}

// Rule 4: what Apply answers shares no memory with what was handed in, nor with
// another answer, and no two of its lists share any.
func TestApplySharesNothing(t *testing.T) {
	for _, edit := range these {
		l, nodes := town(), roomy(tree(t, town(), full))
		c, _ := change.Read(l, elems(t, edit), api.OpMerge)
		first, e := change.Apply(l, nodes, c)
		second, _ := change.Apply(l, nodes, c)
		third, _ := change.Apply(l, nodes, c)
		want := model.Copy(first)
		if e != api.OK {
			t.Fatal(edit, e)
		}
		for i := range first {
			kids := first[i].Kids
			first[i].Kids = append(kids, api.Node{Name: "more"})
			scribble(kids)
			for j := i + 1; j < len(first); j++ {
				if !alike(first[j:], want[j:]) {
					t.Errorf("%s: two lists of one answer share memory: %v", edit, first)
				}
			}
		}
		scribble(first)
		if !alike(nodes, tree(t, l, full)) || !rooms(nodes) || !alike(second, want) {
			t.Errorf("%s: an answer shares memory: %v, %v", edit, nodes, second)
		}
		scribble(nodes)
		scribbleChanges(c)
		for i := range l {
			l[i].Name = "!"
			l[i].Keys = append(l[i].Keys[:0], "!")
		}
		if !alike(second, want) || !alike(third, want) {
			t.Errorf("%s: an answer keeps what was handed in: %v", edit, second)
		}
	}
}

// Rule 4: the same of what Read answers and is handed.
func TestReadSharesNothing(t *testing.T) {
	for _, edit := range append(slices.Clone(these), wrong...) {
		l, given := town(), elems(t, edit)
		before := anew(given)
		first, e := change.Read(l, given, api.OpMerge)
		second, _ := change.Read(l, given, api.OpMerge)
		want := changesAnew(first)
		if e != api.OK || !alikeElems(given, before) || !alikeDefs(l, town()) {
			t.Errorf("%s: %d, or what was handed in was changed: %v", edit, e, given)
		}
		for i := range first {
			kids := first[i].Kids
			first[i].Kids = append(kids, api.Change{Name: "more"})
			scribbleChanges(kids)
			if !alikeChanges(first[i+1:], want[i+1:]) {
				t.Errorf("%s: two lists of one answer share memory: %v", edit, first)
			}
		}
		scribbleChanges(first)
		if !alikeElems(given, before) || !alikeChanges(second, want) {
			t.Errorf("%s: an answer shares memory: %v, %v", edit, given, second)
		}
		scribbleElems(given)
		for i := range l {
			l[i].Name = "!"
			l[i].Keys = append(l[i].Keys[:0], "!")
		}
		if !alikeChanges(second, want) {
			t.Errorf("%s: an answer keeps what was handed in: %v", edit, second)
		}
	}
	// with an error, too
	for _, s := range []string{"<name/><x/>", "<port><speed>1</speed></port>", "<box><item><x>1</x></item></box>"} {
		given := elems(t, s)
		before := anew(given)
		if got, e := change.Read(town(), given, api.OpMerge); e == api.OK || got != nil || !alikeElems(given, before) {
			t.Error(s, got, e, given)
		}
	}
}
