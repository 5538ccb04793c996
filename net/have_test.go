package net_test

import (
	"fmt"
	"slices"
	"testing"

	"tollbar/api"
)

// TestLink: P4.2, in both directions, and instead of the one that there is.
func TestLink(t *testing.T) {
	for a := range api.MaxNodes {
		for b := range api.MaxNodes {
			if a == b {
				continue
			}
			l := script(link(a, b, 5))
			wantTold(t, "a line", l, a, fmt.Sprint(b, "=5"), "")
			wantTold(t, "a line", l, b, fmt.Sprint(a, "=5"), "")
			for _, other := range []api.Act{link(a, b, 7), link(b, a, 7)} {
				l := script(link(a, b, 5), other)
				wantTold(t, "another line", l, a, fmt.Sprint(b, "=7"), "")
				wantTold(t, "another line", l, b, fmt.Sprint(a, "=7"), "")
			}
		}
	}
	star := script(link(3, 11, 1), link(0, 3, 2), link(3, 4, 3), link(2, 3, 4), link(1, 2, 5), link(3, 10, 1000))
	wantTold(t, "many lines", star, 3, "0=2,2=4,4=3,10=1000,11=1", "")
	wantTold(t, "many lines", star, 2, "1=5,3=4", "")
	wantTold(t, "many lines", star, 1, "2=5", "")
	wantTold(t, "many lines", star, 5, "", "")
	wantReply(t, "a line", nil, link(0, 1, 1), api.Reply{})
	wantReply(t, "the dearest line", nil, link(0, 1, api.MaxCost), api.Reply{})
	wantReply(t, "the same line", script(link(0, 1, 1)), link(0, 1, 1), api.Reply{})
}

// TestLinkRefuses: P4.2, and which error comes first.
func TestLinkRefuses(t *testing.T) {
	before := script(link(0, 1, 5), give(1, 9, 8), tell(0), tell(1), send(1, 0), decide(0), decide(1))
	for _, cost := range []int{0, -1, api.MaxCost + 1, least, greatest, 1 << 32, 1<<32 + 1} {
		for _, b := range []int{0, 1, 2, -1, api.MaxNodes} {
			wantRefused(t, fmt.Sprint("to ", b, " of the cost ", cost), before, link(0, b, cost), api.ErrRange)
		}
	}
	for _, b := range []int{-1, api.MaxNodes, least, greatest, 1 << 32, 1<<32 + 1} {
		wantRefused(t, fmt.Sprint("to ", b), before, link(0, b, 1), api.ErrRange)
	}
	for n := range api.MaxNodes {
		wantRefused(t, fmt.Sprint(n, " to itself"), before, link(n, n, 1), api.ErrForm)
	}
}

// TestCut: P4.2, there is no line any more, from neither end.
func TestCut(t *testing.T) {
	lines := script(link(0, 1, 5), link(1, 2, 6), link(0, 2, 7))
	for _, c := range []api.Act{cut(0, 1), cut(1, 0)} {
		l := append(slices.Clone(lines), c)
		wantReply(t, "cut", lines, c, api.Reply{})
		wantTold(t, "cut", l, 0, "2=7", "")
		wantTold(t, "cut", l, 1, "2=6", "")
		wantTold(t, "cut", l, 2, "0=7,1=6", "")
		wantReply(t, "over a line that is cut", l, send(0, 1), code(api.ErrNone))
		wantReply(t, "over a line that is cut", l, send(1, 0), code(api.ErrNone))
		wantRefused(t, "cut again", l, cut(0, 1), api.ErrNone)
		wantRefused(t, "cut again", l, cut(1, 0), api.ErrNone)
		wantTold(t, "laid again", append(l, link(1, 0, 8)), 0, "1=8,2=7", "")
	}
	for _, n := range []int{-1, 0, 1, 5, api.MaxCost + 1, least, greatest} {
		c := api.Act{Kind: api.Cut, A: 0, B: 1, N: n}
		wantReply(t, fmt.Sprint("cut, whatever N is: ", n), lines, c, api.Reply{})
	}
}

// TestCutRefuses: P4.2, and which error comes first.
func TestCutRefuses(t *testing.T) {
	before := script(link(0, 1, 5), tell(0), tell(1))
	for _, b := range []int{-1, api.MaxNodes, least, greatest, 1 << 32, 1<<32 + 1} {
		wantRefused(t, fmt.Sprint("to ", b), before, cut(0, b), api.ErrRange)
	}
	for n := range api.MaxNodes {
		wantRefused(t, fmt.Sprint(n, " from itself"), before, cut(n, n), api.ErrForm)
	}
	wantRefused(t, "no line", before, cut(0, 2), api.ErrNone)
	wantRefused(t, "no line", before, cut(2, 1), api.ErrNone)
}

// TestDrain: P4.2, a node is drained, or not.
func TestDrain(t *testing.T) {
	line := script(link(0, 1, 5))
	wantTold(t, "drained", append(line, drain(0, 1)), 0, "!1=5", "")
	wantTold(t, "another one is", append(line, drain(0, 1)), 1, "0=5", "")
	wantTold(t, "drained twice", append(line, drain(0, 1), drain(0, 1)), 0, "!1=5", "")
	wantTold(t, "no more", append(line, drain(0, 1), drain(0, 0)), 0, "1=5", "")
	wantTold(t, "it was not", append(line, drain(0, 0)), 0, "1=5", "")
	wantTold(t, "without lines", script(drain(11, 1)), 11, "!", "")
	wantReply(t, "drained", line, drain(0, 1), api.Reply{})
	for _, n := range []int{-1, 2, least, greatest, 1 << 32, 1<<32 + 1} {
		wantRefused(t, fmt.Sprint("not drained, ", n), line, drain(0, n), api.ErrRange)
		wantRefused(t, fmt.Sprint("drained, ", n), append(line, drain(0, 1)), drain(0, n), api.ErrRange)
	}
}

// TestGive: P4.3, prefixes stand in their order, whenever they come.
func TestGive(t *testing.T) {
	wantTold(t, "one", script(give(4, 9, 8)), 4, "", "9/8")
	wantTold(t, "another one has it", script(give(4, 9, 8)), 5, "", "")
	all := script(give(4, 0, 0), give(4, 0, 8), give(4, 9, 8), give(4, 64, 2), give(4, 64, 3), give(4, 255, 8))
	d := die(7)
	for range 50 {
		for i := range all {
			j := d.N(i + 1)
			all[i], all[j] = all[j], all[i]
		}
		wantTold(t, "as many as may be", all, 4, "", "0/0,0/8,9/8,64/2,64/3,255/8")
		wantReply(t, "the last one", all[:5], all[5], api.Reply{})
	}
	wantTold(t, "two nodes have it", script(give(4, 9, 8), give(3, 9, 8)), 3, "", "9/8")
}

// TestGiveRefuses: P4.3, what is refused of it alone comes first.
func TestGiveRefuses(t *testing.T) {
	var full []api.Act
	for i := range api.MaxOwn {
		full = append(full, give(0, 9+i, 8))
	}
	some := full[:api.MaxOwn-1]
	for _, before := range [][]api.Act{nil, some, full} {
		for _, p := range []api.Prefix{{Addr: 0, Bits: -1}, {Addr: 0, Bits: 9}, {Addr: -1, Bits: 8}, {Addr: 256, Bits: 8}, {Addr: 1, Bits: 9},
			{Addr: least, Bits: 0}, {Addr: greatest, Bits: 8}, {Addr: 0, Bits: least}, {Addr: 0, Bits: greatest}} {
			wantRefused(t, fmt.Sprint(p), before, give(0, p.Addr, p.Bits), api.ErrRange)
		}
		for _, p := range []api.Prefix{{Addr: 1, Bits: 0}, {Addr: 64, Bits: 1}, {Addr: 255, Bits: 7}, {Addr: 9, Bits: 7}} {
			wantRefused(t, fmt.Sprint(p), before, give(0, p.Addr, p.Bits), api.ErrForm)
		}
	}
	for i := range some {
		wantRefused(t, fmt.Sprint("again ", i), some, give(0, 9+i, 8), api.ErrOrder)
		wantRefused(t, fmt.Sprint("again, and too many ", i), full, give(0, 9+i, 8), api.ErrSize)
	}
	wantRefused(t, "too many, at the end", full, give(0, 255, 8), api.ErrSize)
	wantRefused(t, "too many, at the beginning", full, give(0, 0, 0), api.ErrSize)
	wantReply(t, "another node has as many", full, give(1, 9, 8), api.Reply{})
}

// TestTake: P4.3, a node has a prefix no more.
func TestTake(t *testing.T) {
	all := script(give(4, 64, 3), give(4, 9, 8), give(4, 64, 2), give(5, 64, 2))
	l := append(slices.Clone(all), take(4, 64, 2))
	wantReply(t, "taken", all, take(4, 64, 2), api.Reply{})
	wantTold(t, "taken", l, 4, "", "9/8,64/3")
	wantTold(t, "taken from another one", l, 5, "", "64/2")
	wantTold(t, "all taken", append(l, take(4, 9, 8), take(4, 64, 3)), 4, "", "")
	wantTold(t, "given again", append(l, give(4, 64, 2)), 4, "", "9/8,64/2,64/3")
	wantRefused(t, "taken twice", l, take(4, 64, 2), api.ErrNone)

	full := script(give(0, 1, 8), give(0, 2, 8), give(0, 3, 8), give(0, 4, 8), give(0, 5, 8), give(0, 6, 8), take(0, 3, 8))
	wantReply(t, "there is room again", full, give(0, 7, 8), api.Reply{})
}

// TestTakeRefuses: P4.3, whatever the prefix is.
func TestTakeRefuses(t *testing.T) {
	before := script(give(0, 9, 8), give(0, 64, 2), give(1, 200, 8))
	for _, p := range []api.Prefix{{Addr: 9, Bits: 7}, {Addr: 8, Bits: 8}, {Addr: 64, Bits: 3}, {Addr: 200, Bits: 8}, {Addr: 0, Bits: 0},
		{Addr: -1, Bits: 8}, {Addr: 256, Bits: 8}, {Addr: 9, Bits: 9}, {Addr: 9, Bits: -1}, {Addr: least, Bits: greatest}} {
		wantRefused(t, fmt.Sprint(p), before, take(0, p.Addr, p.Bits), api.ErrNone)
		wantRefused(t, fmt.Sprint("nothing, ", p), nil, take(0, p.Addr, p.Bits), api.ErrNone)
	}
}
