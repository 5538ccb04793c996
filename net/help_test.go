package net_test

import (
	"fmt"
	"slices"
	"testing"

	"tollbar/api"
	"tollbar/net"
	"tollbar/probe"
)

type die = probe.Die

const (
	least    = -1 << 63
	greatest = 1<<63 - 1
)

func link(a, b, cost int) api.Act { return api.Act{Kind: api.Link, A: a, B: b, N: cost} }

func cut(a, b int) api.Act { return api.Act{Kind: api.Cut, A: a, B: b} }

func drain(a, n int) api.Act { return api.Act{Kind: api.Drain, A: a, N: n} }

func give(a, addr, bits int) api.Act {
	return api.Act{Kind: api.Give, A: a, Prefix: api.Prefix{Addr: addr, Bits: bits}}
}

func take(a, addr, bits int) api.Act {
	return api.Act{Kind: api.Take, A: a, Prefix: api.Prefix{Addr: addr, Bits: bits}}
}

func tell(a int) api.Act { return api.Act{Kind: api.Tell, A: a} }

func send(a, b int) api.Act { return turn(a, b, -1) }

// turn: send with a byte that is turned on the way.
func turn(a, b, n int) api.Act { return api.Act{Kind: api.Send, A: a, B: b, N: n} }

func write(a int, key, value string) api.Act {
	return api.Act{Kind: api.Write, A: a, Key: key, Value: value}
}

func decide(a int) api.Act { return api.Act{Kind: api.Decide, A: a} }

func walk(a, addr, m int) api.Act { return api.Act{Kind: api.Walk, A: a, N: addr, M: m} }

func script(l ...api.Act) []api.Act { return l }

func join(l ...[]api.Act) []api.Act { return slices.Concat(l...) }

// writes of so many keys that nobody tells at.
func writes(a, n int) []api.Act {
	var l []api.Act
	for i := range n {
		l = append(l, write(a, fmt.Sprintf("k%02d", i), "v"))
	}
	return l
}

func entry(key string, version, origin int, value string) api.Entry {
	return api.Entry{Key: key, Version: version, Origin: origin, Value: value}
}

func keys(l ...string) api.Reply { return api.Reply{Keys: l} }

func code(c api.Errno) api.Reply { return api.Reply{Code: c} }

func path(cost int, nodes ...int) api.Reply { return api.Reply{Path: nodes, Cost: cost} }

// run a script that is not too long.
func run(t *testing.T, l []api.Act) ([]api.Reply, [][]api.Entry) {
	t.Helper()
	replies, stores, e := net.Run(l)
	if e != api.OK || len(replies) != len(l) || len(stores) != api.MaxNodes {
		t.Fatalf("%.300v: %d replies, %d stores, code %d", l, len(replies), len(stores), e)
	}
	return replies, stores
}

func sameReply(a, b api.Reply) bool {
	return a.Code == b.Code && a.Cost == b.Cost && slices.Equal(a.Path, b.Path) && slices.Equal(a.Keys, b.Keys)
}

// show a reply: the code as a number.
func show(r api.Reply) string { return fmt.Sprint(int(r.Code), r.Path, r.Cost, r.Keys) }

// wantReply of an act that comes behind others.
func wantReply(t *testing.T, what string, before []api.Act, a api.Act, want api.Reply) {
	t.Helper()
	l, _ := run(t, append(slices.Clone(before), a))
	if got := l[len(before)]; !sameReply(got, want) {
		t.Errorf("%s: %s, want %s", what, show(got), show(want))
	}
}

// wantRefused: an act that comes behind others is refused, and does nothing:
// behind it all goes on as if it had not been.
func wantRefused(t *testing.T, what string, before []api.Act, a api.Act, want api.Errno) {
	t.Helper()
	wantReply(t, what, before, a, code(want))
	wantAlike(t, what, join(before, script(a), bare()), join(before, bare()), len(bare()))
}

// wantAlike: two scripts whose last acts have the same replies, and after
// which all know the same.
func wantAlike(t *testing.T, what string, x, y []api.Act, last int) {
	t.Helper()
	xs, xstores := run(t, x)
	ys, ystores := run(t, y)
	if !slices.EqualFunc(xs[len(xs)-last:], ys[len(ys)-last:], sameReply) {
		t.Errorf("%s: other replies afterwards", what)
	}
	if !sameStores(xstores, ystores) {
		t.Errorf("%s: %.300v, want %.300v", what, xstores, ystores)
	}
}

// bare: acts that lay bare how some nodes are: by their old tables, what they
// know, and what they have to tell.
func bare() []api.Act {
	var l []api.Act
	for _, n := range []int{0, 1, 2, 3, 11} {
		l = append(l, walk(n, 9, 0), walk(n, 200, 1))
		for _, m := range []int{0, 1, 2, 3, 11} {
			l = append(l, send(n, m))
		}
		l = append(l, tell(n), decide(n), walk(n, 9, 0), walk(n, 200, 1))
	}
	return l
}

func sameStores(a, b [][]api.Entry) bool {
	return slices.EqualFunc(a, b, func(x, y []api.Entry) bool { return slices.Equal(x, y) })
}

// wantStore: what a node knows after a script.
func wantStore(t *testing.T, what string, l []api.Act, node int, want ...api.Entry) {
	t.Helper()
	_, stores := run(t, l)
	if !slices.Equal(stores[node], want) {
		t.Errorf("%s: node %d knows %v, want %v", what, node, stores[node], want)
	}
}

// wantTold: what a node, that has told nothing yet, tells after a script.
func wantTold(t *testing.T, what string, l []api.Act, node int, lines, prefixes string) {
	t.Helper()
	wantStore(t, what, append(slices.Clone(l), tell(node)), node,
		entry(fmt.Sprint("a:", node), 1, node, lines),
		entry(fmt.Sprint("p:", node), 1, node, prefixes))
}
