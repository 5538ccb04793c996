package rib_test

import (
	"fmt"
	"slices"
	"strings"
	"testing"

	"tollbar/api"
	"tollbar/graph"
	"tollbar/rib"
)

func wantTableOf(t *testing.T, what string, l []api.Entry, node int, want ...api.Route) {
	t.Helper()
	got, code := rib.Table(l, node)
	what = fmt.Sprint(what, ", of ", node)
	wantCode(t, what, code, api.OK)
	wantTable(t, what, got, want)
	wantCode(t, what+", checked", rib.Check(got), api.OK)
}

// line of the nodes 0, 1 and 2; what else is told is laid beside it.
func line(told ...string) []api.Entry {
	return kept(append(told, "a:0", "1=2", "a:1", "0=20,2=3", "a:2", "1=30")...)
}

// TestHere: P3.2, what the node itself tells.
func TestHere(t *testing.T) {
	own := line("p:1", "0/0,9/8,128/1")
	wantTableOf(t, "its own", own, 1, here(0, 0), here(9, 8), here(128, 1))
	wantTableOf(t, "that of a neighbor", own, 0, to(0, 0, 2, 1), to(9, 8, 2, 1), to(128, 1, 2, 1))

	both := line("p:0", "9/8,64/2", "p:1", "9/8,64/3", "p:2", "9/8")
	wantTableOf(t, "that of others, too", both, 0, here(9, 8), here(64, 2), to(64, 3, 2, 1))
	wantTableOf(t, "that of others, too", both, 1, here(9, 8), to(64, 2, 20, 0), here(64, 3))
	wantTableOf(t, "that of others, too", both, 2, here(9, 8), to(64, 2, 50, 1), to(64, 3, 30, 1))

	alone := kept("p:7", "0/0")
	wantTableOf(t, "of a node without links", alone, 7, here(0, 0))
	wantTableOf(t, "of a node without links", alone, 6)

	drained := kept("a:0", "!1=1", "a:1", "0=1", "p:0", "9/8", "p:1", "8/8")
	wantTableOf(t, "of a drained node", drained, 0, to(8, 8, 1, 1), here(9, 8))
	wantTableOf(t, "to a drained node", drained, 1, here(8, 8), to(9, 8, 1, 0))
}

// TestNothingTold: P3.2, what tells of no prefix.
func TestNothingTold(t *testing.T) {
	for what, l := range map[string][]api.Entry{
		"an empty store":     nil,
		"links alone":        line(),
		"no prefixes":        line("p:0", "", "p:1", "", "p:2", ""),
		"what can't be read": line("p:0", "1/1", "p:1", "9/8,9/8", "p:2", "9/8?"),
		"at other keys":      line("p:00", "9/8", "q:1", "9/8", "p:12", "9/8", "p:", "9/8", "p2", "9/8"),
		"other nodes":        line("p:3", "9/8", "p:11", "8/8"),
		"one way links":      kept("a:0", "1=1,2=1", "a:1", "2=1", "p:1", "9/8", "p:2", "8/8", "a:2", "2=1"),
	} {
		wantTableOf(t, what, l, 0)
	}
	cut := kept("a:0", "1=1", "a:1", "!0=1,2=1", "a:2", "1=1", "p:1", "9/8", "p:2", "8/8")
	wantTableOf(t, "behind a drained one", cut, 0, to(9, 8, 1, 1))
}

// TestCheapestOfAll: P3.2, a prefix that several tell.
func TestCheapestOfAll(t *testing.T) {
	far := line("p:1", "9/8", "p:2", "9/8")
	wantTableOf(t, "the nearer one of two", far, 0, to(9, 8, 2, 1))
	back := kept("a:0", "1=20", "a:1", "0=2,2=3", "a:2", "1=3", "p:0", "9/8", "p:1", "7/8", "p:2", "8/8,9/8")
	wantTableOf(t, "the nearer one, told later", back, 1, here(7, 8), to(8, 8, 3, 2), to(9, 8, 2, 0))

	star := kept("a:0", "1=5,2=5,3=4,4=6", "a:1", "0=1", "a:2", "0=1", "a:3", "0=1", "a:4", "0=1", "p:1", "9/8", "p:2", "9/8", "p:4", "9/8")
	wantTableOf(t, "two that cost the same", star, 0, to(9, 8, 5, 1, 2))
	wantTableOf(t, "a node in between", star, 3, to(9, 8, 6, 0))
	wantTableOf(t, "one of them", star, 1, here(9, 8))

	later := kept("a:0", "1=5,2=5,3=4", "a:1", "0=1", "a:2", "0=1", "a:3", "0=1", "p:1", "9/8", "p:2", "9/8", "p:3", "9/8")
	wantTableOf(t, "a cheaper one behind two that cost the same", later, 0, to(9, 8, 4, 3))

	// From 0 it costs 4 to 3, over 1 or 2, and 4 to 4, over 2 or 5.
	round := kept("a:0", "1=1,2=2,5=3", "a:1", "0=1,3=3", "a:2", "0=1,3=2,4=2", "a:3", "1=1,2=1", "a:4", "2=1,5=1", "a:5", "0=1,4=1", "p:3", "9/8", "p:4", "9/8,64/2")
	wantTableOf(t, "ways that share a hop", round, 0, to(9, 8, 4, 1, 2, 5), to(64, 2, 4, 2, 5))

	fall := kept("a:0", "1=2,2=1", "a:1", "0=1", "a:2", "0=1,3=1", "a:3", "2=1", "p:1", "9/8", "p:3", "9/8")
	wantTableOf(t, "the hop of a later node is lower", fall, 0, to(9, 8, 2, 1, 2))
	fall = kept("a:0", "2=1,3=2", "a:3", "0=1", "a:2", "0=1,1=1", "a:1", "2=1", "p:1", "9/8", "p:3", "9/8")
	wantTableOf(t, "the hop of a later node is higher", fall, 0, to(9, 8, 2, 2, 3))
	fall = kept("a:0", "3=1,9=2", "a:9", "0=1,1=3", "a:1", "9=1", "a:3", "0=1,4=4", "a:4", "3=1", "p:1", "9/8", "p:4", "9/8")
	wantTableOf(t, "hops come in their order, not in that of nodes", fall, 0, to(9, 8, 5, 3, 9))
}

// TestOrderOfTables: P3.2, routes stand in the order of their prefixes, whoever tells them.
func TestOrderOfTables(t *testing.T) {
	l := line("p:0", "64/2,64/8,192/2", "p:1", "0/0,64/3,255/8", "p:2", "0/8,65/8,128/1")
	wantTableOf(t, "of three", l, 0, to(0, 0, 2, 1), to(0, 8, 5, 1), here(64, 2), to(64, 3, 2, 1), here(64, 8),
		to(65, 8, 5, 1), to(128, 1, 5, 1), here(192, 2), to(255, 8, 2, 1))
}

// TestFullTable: P3.2, as many prefixes as all nodes may tell, over the dearest line that may be.
func TestFullTable(t *testing.T) {
	var told []string
	var want []api.Route
	for n := range api.MaxNodes {
		var sides []string
		for _, m := range []int{n - 1, n + 1} {
			if 0 <= m && m < api.MaxNodes {
				sides = append(sides, fmt.Sprint(m, "=", api.MaxCost))
			}
		}
		var own []string
		for i := range api.MaxOwn {
			addr := api.MaxOwn*n + i
			own = append(own, fmt.Sprint(addr, "/8"))
			if n == 0 {
				want = append(want, here(addr, 8))
			} else {
				want = append(want, to(addr, 8, n*api.MaxCost, 1))
			}
		}
		told = append(told, fmt.Sprint("a:", n), strings.Join(sides, ","), fmt.Sprint("p:", n), strings.Join(own, ","))
	}
	wantTableOf(t, "all nodes", kept(told...), 0, want...)
}

// TestTableRefuses: P3.2, what store's Check refuses comes ahead of a node that is none.
func TestTableRefuses(t *testing.T) {
	refuse := func(l []api.Entry, node int, want api.Errno) {
		t.Helper()
		got, code := rib.Table(l, node)
		wantCode(t, fmt.Sprint("Table of ", node), code, want)
		if len(got) > 0 {
			t.Errorf("Table of %d: %v with an error", node, got)
		}
	}
	for _, node := range []int{-1, api.MaxNodes, -1 << 63, 1<<63 - 1, 1 << 32} {
		refuse(nil, node, api.ErrRange)
		refuse(line("p:0", "9/8", "p:12", "9/8"), node, api.ErrRange)
		for code, l := range refusedStores() {
			refuse(l, node, code)
		}
	}
	for code, l := range refusedStores() {
		refuse(l, 0, code)
	}
}

// drawnStore: what nodes tell; few costs and few prefixes, so that much is the same.
func drawnStore(d *die, nodes int) []api.Entry {
	own := prefixes(0, 0, 0, 8, 64, 2, 64, 3, 128, 1, 192, 2, 255, 8)
	var told []string
	for a := range nodes {
		adj := api.Adj{Drain: d.N(6) == 0}
		for b := range nodes {
			if d.N(4) > 0 {
				adj.Sides = append(adj.Sides, api.Side{Node: b, Cost: 1 + d.N(3)})
			}
		}
		var has []api.Prefix
		for _, p := range own {
			if d.N(4) == 0 {
				has = append(has, p)
			}
		}
		s, _ := graph.ShowAdj(adj)
		p, _ := graph.ShowPrefixes(has)
		if d.N(9) == 0 {
			p += "?"
		}
		told = append(told, graph.AdjKey(a), s, graph.PrefixesKey(a), p)
	}
	return kept(told...)
}

// reckoned: the route to a prefix, as a test thinks of it: first the cost,
// then who may be gone to for it.
func reckoned(l []api.Entry, ways []api.Way, node int, p api.Prefix) (api.Route, bool) {
	tells := func(n int) bool { return slices.Contains(graph.ToldPrefixes(l, n), p) }
	if tells(node) {
		return here(p.Addr, p.Bits), true
	}
	cost := api.MaxPath + 1
	for n, w := range ways {
		if w.Cost >= 0 && tells(n) {
			cost = min(cost, w.Cost)
		}
	}
	r := to(p.Addr, p.Bits, cost)
	for hop := range api.MaxNodes {
		for n, w := range ways {
			if w.Cost == cost && tells(n) && slices.Contains(w.Hops, hop) {
				r.Hops = append(r.Hops, hop)
				break
			}
		}
	}
	return r, cost <= api.MaxPath
}

// TestTableDrawn: P3.2, prefix by prefix.
func TestTableDrawn(t *testing.T) {
	d := die(53)
	for i := range 150 {
		l := drawnStore(&d, 1+i%api.MaxNodes)
		for node := range api.MaxNodes {
			ways, _ := graph.Ways(l, node)
			var want []api.Route
			for _, p := range prefixes(0, 0, 0, 8, 64, 2, 64, 3, 128, 1, 192, 2, 255, 8) {
				if r, is := reckoned(l, ways, node, p); is {
					want = append(want, r)
				}
			}
			wantTableOf(t, fmt.Sprint("store ", i), l, node, want...)
		}
	}
}
