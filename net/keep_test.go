package net_test

import (
	"fmt"
	"slices"
	"strings"
	"testing"

	"tollbar/api"
	"tollbar/net"
	"tollbar/probe"
)

var spareAct = api.Act{Kind: api.Write, A: 1, Key: "spare", Value: "spare"}

// text of an answer, all of it.
func text(replies []api.Reply, stores [][]api.Entry, e api.Errno) string {
	var b strings.Builder
	for _, r := range replies {
		b.WriteString(show(r))
	}
	fmt.Fprint(&b, stores, int(e))
	return b.String()
}

// spoil an answer, the spare room of all its lists, too.
func spoil(replies []api.Reply, stores [][]api.Entry) {
	for _, r := range replies[:cap(replies)] {
		probe.Spoil(r.Path, -9)
		probe.Spoil(r.Keys, "spoilt")
	}
	for _, s := range stores[:cap(stores)] {
		probe.Spoil(s, entry("spoilt", -9, -9, ""))
	}
	probe.Spoil(replies, api.Reply{Cost: -9})
	probe.Spoil(stores, nil)
}

// scripts of many kinds, one of them too long.
func scripts() [][]api.Act {
	d := die(9)
	l := [][]api.Act{nil, {}, three(0, 1, 2), append(diamond(), walk(0, 9, 0), walk(0, 9, 1)), loop(12, 3), append(row(), walk(0, 9, 0)),
		join(script(link(0, 1, 1)), writes(0, api.MaxEntries), script(send(0, 1), tell(1), send(1, 0))),
		make([]api.Act, api.MaxActs+1)}
	for range 20 {
		l = append(l, drawnScript(&d, 150))
	}
	return l
}

// TestActsStay: a script that is handed in stays as it was, its spare room
// too, and is not kept; nothing is kept from call to call.
func TestActsStay(t *testing.T) {
	for i, l := range scripts() {
		l := probe.Roomy(l, spareAct)
		was := slices.Clone(l[:cap(l)])
		replies, stores, e := net.Run(l)
		first := text(replies, stores, e)
		again, others, e2 := net.Run(l)
		if text(again, others, e2) != first {
			t.Fatalf("script %d: another answer the second time", i)
		}
		spoil(again, others)
		if !slices.Equal(l[:cap(l)], was) {
			t.Fatalf("script %d is changed", i)
		}
		probe.Spoil(l, spareAct)
		if text(replies, stores, e) != first {
			t.Fatalf("script %d: the answer shares memory with another one, or with the script", i)
		}
	}
}

// TestListsAreApart: no two lists of one answer share memory: each is filled,
// its spare room too, with what no other one is filled with.
func TestListsAreApart(t *testing.T) {
	for i, l := range scripts() {
		replies, stores, _ := net.Run(l)
		for n, r := range replies {
			probe.Spoil(r.Path, n)
			probe.Spoil(r.Keys, fmt.Sprint(n))
		}
		for n, s := range stores {
			probe.Spoil(s, api.Entry{Version: n})
		}
		for n, r := range replies {
			wantAll(t, fmt.Sprint("script ", i, ", path ", n), r.Path, n)
			wantAll(t, fmt.Sprint("script ", i, ", keys ", n), r.Keys, fmt.Sprint(n))
		}
		for n, s := range stores {
			wantAll(t, fmt.Sprint("script ", i, ", store ", n), s, api.Entry{Version: n})
		}
	}
}

func wantAll[T comparable](t *testing.T, what string, l []T, want T) {
	t.Helper()
	for _, x := range l[:cap(l)] {
		if x != want {
			t.Fatalf("%s: it shares memory with another list", what)
		}
	}
}

// TestWildActs: no act panics, each ends, and what is refused has no more in its reply.
func TestWildActs(t *testing.T) {
	numbers := []int{least, -1 << 32, -1000, -1, 0, 1, 2, 3, 8, 9, 11, 12, 13, 64, 255, 256, 1000, 1001, 1 << 32, greatest}
	texts := []string{"", "k", "a:0", "p:0", "a:11", "a:00", "Bad", "\xff", "ä", "1=1", "!0=1,1=1", "9/8", "0/0,9/8", strings.Repeat("z", 8), strings.Repeat("z", 120), strings.Repeat("z", 121), strings.Repeat("z", 1<<12)}
	d := die(10)
	pick := func() int {
		if d.N(2) == 0 {
			return d.N(3)
		}
		return numbers[d.N(len(numbers))]
	}
	for range 400 {
		var l []api.Act
		for range d.N(api.MaxActs + 2) {
			a := api.Act{Kind: 1 + d.N(10), A: pick(), B: pick(), N: pick(), M: pick(), Prefix: api.Prefix{Addr: pick(), Bits: pick()}, Key: texts[d.N(len(texts))], Value: texts[d.N(len(texts))]}
			if d.N(10) == 0 {
				a.Kind = pick()
			}
			l = append(l, a)
		}
		replies, stores, e := net.Run(l)
		if len(l) > api.MaxActs {
			if len(replies) > 0 || len(stores) > 0 || e != api.ErrSize {
				t.Fatalf("%d acts: code %d", len(l), e)
			}
			continue
		}
		if e != api.OK || len(replies) != len(l) || len(stores) != api.MaxNodes {
			t.Fatalf("%d acts: %d replies, %d stores, code %d", len(l), len(replies), len(stores), e)
		}
		for i, r := range replies {
			if r.Code != api.OK && !sameReply(r, code(r.Code)) {
				t.Fatalf("%v: %s with an error", l[i], show(r))
			}
		}
	}
}
