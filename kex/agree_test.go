package kex_test

import (
	"math/rand"
	"slices"
	"testing"

	"tabulary/api"
	"tabulary/kex"
)

// with answers Own's lists but for one.
func with(kind int, names ...string) kex.Lists {
	l := kex.Own()
	l[kind] = names
	return l
}

// agrees fails the test if Agree answers another error.
func agrees(t *testing.T, client, server kex.Lists, want api.Errno) {
	t.Helper()
	if e := kex.Agree(client, server); e != want {
		t.Errorf("Agree(%q, %q): %d, want %d", client, server, e, want)
	}
}

// P8.1: the client's first name that the server has, of each kind.
func TestAgree(t *testing.T) {
	agrees(t, kex.Own(), kex.Own(), api.OK)
	for kind, l := range kex.Own() {
		own := l[0]
		for _, c := range []struct {
			client, server []string
			want           api.Errno
		}{
			{[]string{own}, []string{own}, api.OK},
			{[]string{own, own}, []string{own, own}, api.OK},
			{[]string{"x", own}, []string{own}, api.OK},
			{[]string{"x", "y", own, "z"}, []string{own}, api.OK},
			{[]string{own}, []string{"x", own}, api.OK},
			{[]string{own, "x"}, []string{"x", own}, api.OK}, // the client's order counts
			{[]string{"x", own}, []string{own, "x"}, api.ErrAgree},
			{[]string{"x", own}, []string{"x"}, api.ErrAgree},
			{[]string{"y", "x", own}, []string{own, "x", "z"}, api.ErrAgree},
			{[]string{"", own}, []string{own}, api.OK},
			{[]string{"", own}, []string{own, ""}, api.ErrAgree},
			{[]string{""}, []string{""}, api.ErrAgree},
			{nil, []string{own}, api.ErrAgree},
			{[]string{own}, nil, api.ErrAgree},
			{nil, nil, api.ErrAgree},
			{[]string{}, []string{}, api.ErrAgree},
			{[]string{"x"}, []string{own}, api.ErrAgree},
			{[]string{own}, []string{"x"}, api.ErrAgree},
			{[]string{"x"}, []string{"x"}, api.ErrAgree},
			{[]string{own + " "}, []string{own}, api.ErrAgree},
			{[]string{own + "@x"}, []string{own + "@x"}, api.ErrAgree},
			{[]string{own[1:]}, []string{own[1:]}, api.ErrAgree},
		} {
			agrees(t, with(kind, c.client...), with(kind, c.server...), c.want)
		}
	}
	agrees(t, kex.Lists{}, kex.Lists{}, api.ErrAgree)
}

// P8.1: a name must be Own's of its kind, not of another one.
func TestAgreeOnOtherKinds(t *testing.T) {
	own := kex.Own()
	for kind := range own {
		for other := range own {
			want := api.ErrAgree
			if own[kind][0] == own[other][0] {
				want = api.OK
			}
			l := with(kind, own[other][0])
			agrees(t, l, l, want)
		}
	}
}

// agreed answers what Agree should, step by step.
func agreed(client, server kex.Lists) api.Errno {
	for kind, own := range kex.Own() {
		at := 0
		for at < len(client[kind]) && !slices.Contains(server[kind], client[kind][at]) {
			at++
		}
		if at == len(client[kind]) || client[kind][at] != own[0] {
			return api.ErrAgree
		}
	}
	return api.OK
}

// P8.1: lists of a few names, in any order; they stay as they were.
func TestAgreeOfAny(t *testing.T) {
	rnd := rand.New(rand.NewSource(3))
	names := func(own string) []string {
		l := []string{own}
		for _, other := range []string{"x", "y", "", own + "x"} {
			if rnd.Intn(12) == 0 {
				l = append(l, other)
			}
		}
		rnd.Shuffle(len(l), func(i, j int) { l[i], l[j] = l[j], l[i] })
		return l
	}
	came := map[api.Errno]int{}
	for range 5000 {
		var client, server, kept kex.Lists
		for kind, own := range kex.Own() {
			client[kind], server[kind] = names(own[0]), names(own[0])
			kept[kind] = slices.Clone(client[kind])
		}
		want := agreed(client, server)
		came[want]++
		agrees(t, client, server, want)
		for kind := range kept {
			if !slices.Equal(kept[kind], client[kind]) {
				t.Fatalf("the client's list was changed: %q", client[kind])
			}
		}
	}
	if came[api.OK] < 500 || came[api.ErrAgree] < 500 {
		t.Errorf("the test's own lists: %v", came)
	}
}
