package net_test

import (
	"fmt"
	"testing"

	"tollbar/api"
	"tollbar/net"
)

// TestNoActs: P4.1, at first nobody knows anything.
func TestNoActs(t *testing.T) {
	for _, l := range [][]api.Act{nil, {}} {
		_, stores := run(t, l)
		for n, s := range stores {
			if len(s) > 0 {
				t.Errorf("node %d knows %v", n, s)
			}
		}
	}
}

// TestAtFirst: P4.1, no node has or tells anything, and there are no lines.
func TestAtFirst(t *testing.T) {
	for n := range api.MaxNodes {
		wantTold(t, "at first", nil, n, "", "")
		wantReply(t, "at first", nil, walk(n, 0, 0), code(api.ErrNone))
		wantReply(t, "at first", nil, take(n, 0, 0), code(api.ErrNone))
		for m := range api.MaxNodes {
			wantReply(t, "at first", nil, send(n, m), code(api.ErrNone))
		}
	}
}

// TestMaxActs: P4.1, as many acts as may be, and one more.
func TestMaxActs(t *testing.T) {
	most := make([]api.Act, api.MaxActs)
	for i := range most {
		most[i] = write(i%api.MaxNodes, "k", "v")
	}
	replies, stores := run(t, most)
	for i, r := range replies {
		if !sameReply(r, keys("k")) {
			t.Errorf("act %d: %s", i, show(r))
		}
	}
	for n, s := range stores {
		version := api.MaxActs / api.MaxNodes
		if n < api.MaxActs%api.MaxNodes {
			version++
		}
		if len(s) != 1 || s[0] != entry("k", version, n, "v") {
			t.Errorf("node %d knows %v", n, s)
		}
	}
	for _, l := range [][]api.Act{append(most, tell(0)), make([]api.Act, api.MaxActs+1), make([]api.Act, 1<<16)} {
		replies, stores, e := net.Run(l)
		if len(replies) > 0 || len(stores) > 0 || e != api.ErrSize {
			t.Errorf("%d acts: %d replies, %d stores, code %d", len(l), len(replies), len(stores), e)
		}
	}
}

// TestKinds: P4.1, a kind that is none comes ahead of a node that is none.
func TestKinds(t *testing.T) {
	before := script(link(0, 1, 1), give(0, 9, 8), tell(0))
	for _, kind := range []int{0, -1, 11, 12, least, greatest, 1<<32 + 1} {
		for _, a := range []int{0, 1, -1, api.MaxNodes, greatest} {
			wantRefused(t, fmt.Sprint("kind ", kind), before, api.Act{Kind: kind, A: a, B: 2, N: 1}, api.ErrKind)
		}
	}
}

// ofEach: an act of each kind that is not refused behind some others.
func ofEach(a int) (before []api.Act, of []api.Act) {
	b := (a + 1) % api.MaxNodes
	before = script(link(a, b, 3), give(a, 64, 2), tell(a), decide(a))
	return before, script(link(a, b, 1), cut(a, b), drain(a, 1), give(a, 9, 8), take(a, 64, 2),
		tell(a), send(a, b), write(a, "k", "v"), decide(a), walk(a, 64, 0))
}

// TestNodes: P4.1, A is a node or not, in each kind of act.
func TestNodes(t *testing.T) {
	for n := range api.MaxNodes {
		before, of := ofEach(n)
		for _, a := range of {
			l, _ := run(t, join(before, script(a)))
			if r := l[len(before)]; r.Code != api.OK {
				t.Errorf("%v: %s", a, show(r))
			}
		}
	}
	before, of := ofEach(0)
	for _, a := range of {
		for _, n := range []int{-1, api.MaxNodes, api.MaxNodes + 1, least, greatest, 1 << 32} {
			a.A = n
			wantRefused(t, fmt.Sprint("kind ", a.Kind, " of ", n), before, a, api.ErrRange)
		}
	}
}

// TestNodeAheadOfAll: P4.1, a node that is none comes ahead of what an act refuses.
func TestNodeAheadOfAll(t *testing.T) {
	for _, a := range []api.Act{
		link(0, -1, 0), link(0, 12, 1), cut(0, 12), cut(0, 1), drain(0, 2), give(0, 1, 1), give(0, -1, 1), take(0, 1, 1),
		send(0, 12), send(0, 1), write(0, "", ""), write(0, "Bad", ""), walk(0, -1, 0), walk(0, 1, -1), walk(0, 1, 0),
		{Kind: api.Link, B: -1, N: 1}, {Kind: api.Cut, B: -1}, {Kind: api.Link, B: 12, N: 1}, {Kind: api.Cut, B: 12},
	} {
		for _, n := range []int{-1, api.MaxNodes} {
			a.A = n
			wantReply(t, fmt.Sprint(a), nil, a, code(api.ErrRange))
		}
	}
}

// TestReplies: P4.1, what a reply tells beside its code, by kinds.
func TestReplies(t *testing.T) {
	before, of := ofEach(5)
	want := []api.Reply{{}, {}, {}, {}, {}, {}, keys("a:5", "p:5"), keys("k"), {}, path(0, 5)}
	for i, a := range of {
		wantReply(t, fmt.Sprint("kind ", a.Kind), before, a, want[i])
	}
}

// TestOneByOne: P4.1, acts come in their order: what comes later changes no
// reply that is ahead.
func TestOneByOne(t *testing.T) {
	d := die(5)
	for range 20 {
		l := drawnScript(&d, 60)
		whole, _ := run(t, l)
		for n := range l {
			part, _ := run(t, l[:n])
			for i, r := range part {
				if !sameReply(r, whole[i]) {
					t.Fatalf("act %d of %v: %s, and %s in the whole", i, l, show(r), show(whole[i]))
				}
			}
		}
	}
}

// TestRefusedDoNothing: P4.1, scripts without the acts that are refused have
// the same replies.
func TestRefusedDoNothing(t *testing.T) {
	d := die(6)
	refused := 0
	for range 300 {
		l := drawnScript(&d, api.MaxActs)
		replies, stores := run(t, l)
		var done []api.Act
		var want []api.Reply
		for i, r := range replies {
			if r.Code == api.OK {
				done, want = append(done, l[i]), append(want, r)
				continue
			}
			refused++
			if !sameReply(r, code(r.Code)) {
				t.Fatalf("%v: %s with an error", l[i], show(r))
			}
		}
		got, again := run(t, done)
		for i, r := range got {
			if !sameReply(r, want[i]) {
				t.Fatalf("%v: %s, and %s behind others that are refused", done[i], show(r), show(want[i]))
			}
		}
		if !sameStores(stores, again) {
			t.Fatalf("%v: other stores behind refused acts", l)
		}
	}
	if refused < 1000 {
		t.Errorf("only %d acts are refused", refused)
	}
}

// drawnScript: few nodes, keys and prefixes, so that much meets; now and then
// a number that is none.
func drawnScript(d *die, n int) []api.Act {
	wild := []int{-1, api.MaxNodes, 2, 3, 7, 256, 1000, 1001, least, greatest}
	node := func() int {
		if d.N(25) == 0 {
			return wild[d.N(len(wild))]
		}
		return d.N(4)
	}
	var l []api.Act
	for range n {
		a := api.Act{Kind: 1 + d.N(10), A: node(), B: node(), N: d.N(3), M: d.N(3)}
		a.Prefix = api.Prefix{Addr: 64 * d.N(4), Bits: []int{0, 1, 2, 2, 8, 8, 9}[d.N(7)]}
		a.Key = []string{"k", "a:0", "a:1", "p:0", "p:2", "Bad", ""}[d.N(7)]
		a.Value = []string{"", "0=1", "1=2", "0/0", "64/2", "?"}[d.N(6)]
		switch {
		case d.N(30) == 0:
			a.N, a.M, a.Kind = wild[d.N(len(wild))], wild[d.N(len(wild))], wild[d.N(len(wild))]
		case a.Kind == api.Send && d.N(6) > 0:
			a.N = -1
		case a.Kind == api.Walk:
			a.N = 64 * d.N(4)
		}
		l = append(l, a)
	}
	return l
}
