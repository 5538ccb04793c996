package graph_test

import (
	"fmt"
	"slices"
	"testing"

	"tollbar/api"
	"tollbar/graph"
)

// wantWays: those that are not named are not there, but that to the node itself.
func wantWays(t *testing.T, what string, l []api.Entry, from int, named map[int]api.Way) {
	t.Helper()
	got, code := graph.Ways(l, from)
	wantCode(t, what, code, api.OK)
	if len(got) != api.MaxNodes {
		t.Fatalf("%s: %d ways", what, len(got))
	}
	for to, w := range got {
		want, is := named[to]
		if !is && to != from {
			want.Cost = -1
		}
		if !sameWay(w, want) {
			t.Errorf("%s: from %d to %d: %v, want %v", what, from, to, w, want)
		}
	}
}

func sameWay(a, b api.Way) bool { return a.Cost == b.Cost && slices.Equal(a.Hops, b.Hops) }

func way(cost int, hops ...int) api.Way { return api.Way{Cost: cost, Hops: hops} }

// TestKeys: P2.4, where a node tells of its links and its prefixes.
func TestKeys(t *testing.T) {
	for n := range api.MaxNodes {
		if got, want := graph.AdjKey(n), fmt.Sprint("a:", n); got != want {
			t.Errorf("AdjKey(%d): %q", n, got)
		}
		if got, want := graph.PrefixesKey(n), fmt.Sprint("p:", n); got != want {
			t.Errorf("PrefixesKey(%d): %q", n, got)
		}
	}
}

// TestLinks: P2.4, there is a link if both tell of it, and from each it costs what that one tells.
func TestLinks(t *testing.T) {
	there, back := map[int]api.Way{11: way(3, 11)}, map[int]api.Way{0: way(5, 0)}
	l := kept("a:0", "11=3", "a:11", "0=5")
	wantWays(t, "both tell", l, 0, there)
	wantWays(t, "both tell, the other way", l, 11, back)
	for what, l := range map[string][]api.Entry{
		"nobody tells":                   nil,
		"one tells":                      kept("a:0", "11=3"),
		"the other one tells":            kept("a:11", "0=5"),
		"one tells, and nothing else":    kept("a:0", "11=3", "a:11", ""),
		"one tells of another one":       kept("a:0", "11=3", "a:11", "1=5"),
		"at a key with a 0 too many":     kept("a:00", "11=3", "a:11", "0=5"),
		"at a key without its number":    kept("a:", "11=3", "a:11", "0=5"),
		"at a key of something else":     kept("b:0", "11=3", "a:11", "0=5"),
		"at a key without its mark":      kept("a0", "11=3", "a:11", "0=5"),
		"at the key of the prefixes":     kept("p:0", "11=3", "a:11", "0=5"),
		"at a key of three digits":       kept("a:0", "11=3", "a:011", "0=5"),
		"not in form":                    kept("a:0", "11=3?", "a:11", "0=5"),
		"with a 0 too many":              kept("a:0", "11=03", "a:11", "0=5"),
		"with a cost too great":          kept("a:0", "11=1001", "a:11", "0=5"),
		"with a cost of 0":               kept("a:0", "11=0", "a:11", "0=5"),
		"with something wrong behind it": kept("a:0", "11=3", "a:11", "0=5,12=1"),
		"with something wrong ahead":     kept("a:0", "1=0,11=3", "a:11", "0=5"),
		"out of order":                   kept("a:0", "11=3", "a:11", "1=1,0=5"),
	} {
		wantWays(t, what, l, 0, nil)
		wantWays(t, what+", the other way", l, 11, nil)
	}
	wantWays(t, "at the greatest cost", kept("a:0", "11=1000", "a:11", "0=1"), 0, map[int]api.Way{11: way(1000, 11)})
	wantWays(t, "of nodes that are none", kept("a:0", "1=1", "a:12", "0=1", "a:1", "0=1"), 0, map[int]api.Way{1: way(1, 1)})
}

// TestWhoWrote: P2.4, it does not matter which node wrote what stands at a key, and how often.
func TestWhoWrote(t *testing.T) {
	l := kept("a:0", "1=3", "a:1", "0=5", "p:1", "9/8")
	for i := range l {
		l[i].Origin, l[i].Version = 7, api.MaxVersion
	}
	wantWays(t, "written by another one", l, 0, map[int]api.Way{1: way(3, 1)})
	if got := graph.ToldPrefixes(l, 1); !slices.Equal(got, prefixes(9, 8)) {
		t.Errorf("written by another one: %v", got)
	}
}

// TestToSelf: P2.4 and P2.5, what a node tells of itself is no link, and makes no way.
func TestToSelf(t *testing.T) {
	wantWays(t, "a node that tells of itself", kept("a:3", "3=1"), 3, nil)
	l := kept("a:3", "3=1,4=2", "a:4", "3=2,4=1")
	wantWays(t, "two that tell of themselves", l, 3, map[int]api.Way{4: way(2, 4)})
	wantWays(t, "two that tell of themselves", l, 4, map[int]api.Way{3: way(2, 3)})
	wantWays(t, "two that tell of themselves", l, 5, nil)
}

// TestToldPrefixes: P2.4, what can't be read tells nothing.
func TestToldPrefixes(t *testing.T) {
	l := kept("p:0", "0/0,128/1", "p:1", "", "p:2", "1/1", "p:3", "0/0?", "p:03", "9/8", "p:10", "9/8", "p:11", "255/8", "p:12", "7/8", "a:4", "9/8", "p:5", "0/0,0/0", "p:6", "!")
	for node := -2; node < 20; node++ {
		want := map[int][]api.Prefix{0: prefixes(0, 0, 128, 1), 10: prefixes(9, 8), 11: prefixes(255, 8)}[node]
		if got := graph.ToldPrefixes(l, node); !slices.Equal(got, want) {
			t.Errorf("node %d: %v, want %v", node, got, want)
		}
	}
	for code, l := range refusedStores() {
		if got := graph.ToldPrefixes(l, 0); len(got) > 0 {
			t.Errorf("a store that is refused with %d: %v", code, got)
		}
	}
}

// TestCheapest: P2.5, the cheapest way, and each neighbor to which one may lead first.
func TestCheapest(t *testing.T) {
	line := kept("a:0", "1=2", "a:1", "0=20,2=3", "a:2", "1=30")
	wantWays(t, "a line", line, 0, map[int]api.Way{1: way(2, 1), 2: way(5, 1)})
	wantWays(t, "a line, from its end", line, 2, map[int]api.Way{1: way(30, 1), 0: way(50, 1)})
	wantWays(t, "a line, from its middle", line, 1, map[int]api.Way{0: way(20, 0), 2: way(3, 2)})
	wantWays(t, "a line, from beside it", line, 3, nil)

	round := kept("a:0", "1=1,2=5,11=2", "a:1", "0=1,2=4", "a:2", "0=1,1=1,11=1", "a:11", "0=2,2=3")
	wantWays(t, "three ways that cost the same", round, 0, map[int]api.Way{1: way(1, 1), 2: way(5, 1, 2, 11), 11: way(2, 11)})

	late := kept("a:0", "1=9,2=1", "a:1", "0=9,3=1", "a:2", "0=1,1=1", "a:3", "1=1")
	wantWays(t, "told by one alone", late, 0, map[int]api.Way{1: way(9, 1), 2: way(1, 2), 3: way(10, 1)})
	late = kept("a:0", "1=9,2=1", "a:1", "0=9,2=1,3=1", "a:2", "0=1,1=1", "a:3", "1=1")
	wantWays(t, "a longer way that is cheaper", late, 0, map[int]api.Way{1: way(2, 2), 2: way(1, 2), 3: way(3, 2)})

	parted := kept("a:0", "1=1", "a:1", "0=1", "a:2", "3=1", "a:3", "2=1")
	wantWays(t, "two parts", parted, 0, map[int]api.Way{1: way(1, 1)})
}

// TestFarthest: P2.5, the dearest way that may be: a line of all nodes.
func TestFarthest(t *testing.T) {
	var told []string
	named := map[int]api.Way{}
	for n := range api.MaxNodes {
		a := adj(false)
		for _, m := range []int{n - 1, n + 1} {
			if 0 <= m && m < api.MaxNodes {
				a.Sides = append(a.Sides, api.Side{Node: m, Cost: api.MaxCost})
			}
		}
		s, _ := graph.ShowAdj(a)
		told = append(told, graph.AdjKey(n), s)
		if n > 0 {
			named[n] = way(n*api.MaxCost, 1)
		}
	}
	wantWays(t, "a line of all", kept(told...), 0, named)
}

// TestDrained: P2.4 and P2.5, no way goes through a drained node, but it may begin or end there.
func TestDrained(t *testing.T) {
	line := kept("a:0", "1=2", "a:1", "!0=2,2=3", "a:2", "1=3")
	wantWays(t, "to it", line, 0, map[int]api.Way{1: way(2, 1)})
	wantWays(t, "to it, from the other end", line, 2, map[int]api.Way{1: way(3, 1)})
	wantWays(t, "from it", line, 1, map[int]api.Way{0: way(2, 0), 2: way(3, 2)})

	ends := kept("a:0", "!1=2", "a:1", "0=2,2=3", "a:2", "!1=3")
	wantWays(t, "from one to another one", ends, 0, map[int]api.Way{1: way(2, 1), 2: way(5, 1)})

	around := kept("a:0", "1=1,3=9", "a:1", "!0=1,2=1", "a:2", "1=1,3=9", "a:3", "0=9,2=9")
	wantWays(t, "around it", around, 0, map[int]api.Way{1: way(1, 1), 2: way(18, 3), 3: way(9, 3)})

	unread := kept("a:0", "1=2", "a:1", "!0=2,2=3?", "a:2", "1=3")
	wantWays(t, "what can't be read", unread, 0, nil)

	both := kept("a:0", "1=1,2=1", "a:1", "!0=1,2=1,3=1", "a:2", "0=1,1=1,3=1", "a:3", "1=1,2=1")
	wantWays(t, "one of two that cost the same", both, 0, map[int]api.Way{1: way(1, 1), 2: way(1, 2), 3: way(2, 2)})
}

// TestWaysRefuse: P2.5, what store's Check refuses comes ahead of a node that is none.
func TestWaysRefuse(t *testing.T) {
	refuse := func(l []api.Entry, from int, want api.Errno) {
		got, code := graph.Ways(l, from)
		wantCode(t, fmt.Sprint("Ways from ", from), code, want)
		if len(got) > 0 {
			t.Errorf("Ways from %d: %v with an error", from, got)
		}
	}
	for _, from := range []int{-1, api.MaxNodes, -1 << 63, 1<<63 - 1, 1 << 32} {
		refuse(nil, from, api.ErrRange)
		refuse(kept("a:0", "1=1", "a:1", "0=1"), from, api.ErrRange)
		for code, l := range refusedStores() {
			refuse(l, from, code)
		}
	}
	for code, l := range refusedStores() {
		refuse(l, 0, code)
	}
	for from := range api.MaxNodes {
		wantWays(t, "an empty store", nil, from, nil)
	}
}

// net: what links cost, and which nodes are drained, as a test thinks of it.
type net struct {
	cost  [api.MaxNodes][api.MaxNodes]int // 0: not told
	drain [api.MaxNodes]bool
}

// drawnNet of some nodes; few costs, so that many ways cost the same.
func drawnNet(d *die, nodes, dear int) net {
	var w net
	for a := range nodes {
		w.drain[a] = d.N(5) == 0
		for b := range nodes {
			if d.N(4) > 0 {
				w.cost[a][b] = 1 + d.N(dear)
			}
		}
	}
	return w
}

func (w *net) kept() []api.Entry {
	var l []string
	for a := range w.cost {
		sides := adj(w.drain[a])
		for b, c := range w.cost[a] {
			if c > 0 {
				sides.Sides = append(sides.Sides, api.Side{Node: b, Cost: c})
			}
		}
		l = append(l, fmt.Sprint("a:", a), told(sides))
	}
	return kept(l...)
}

func (w *net) linked(a, b int) bool { return a != b && w.cost[a][b] > 0 && w.cost[b][a] > 0 }

// walk all ways that come to no node twice, and keep the cheapest ones.
func (w *net) walk(at, first, cost int, been [api.MaxNodes]bool, best []api.Way) {
	been[at] = true
	if first >= 0 {
		if best[at].Cost < 0 || cost < best[at].Cost {
			best[at] = api.Way{Cost: cost}
		}
		if cost == best[at].Cost && !slices.Contains(best[at].Hops, first) {
			best[at].Hops = append(best[at].Hops, first)
			slices.Sort(best[at].Hops)
		}
		if w.drain[at] {
			return
		}
	}
	for next := range w.cost {
		if !been[next] && w.linked(at, next) {
			to := first
			if first < 0 {
				to = next
			}
			w.walk(next, to, cost+w.cost[at][next], been, best)
		}
	}
}

// TestWaysDrawn: P2.5, held against all ways there are.
func TestWaysDrawn(t *testing.T) {
	d := die(31)
	for i := range 600 {
		w := drawnNet(&d, 2+i%6, 1+d.N(6))
		l := w.kept()
		for from := range 8 {
			best := slices.Repeat([]api.Way{{Cost: -1}}, api.MaxNodes)
			w.walk(from, -1, 0, [api.MaxNodes]bool{}, best)
			best[from] = api.Way{}
			checkWays(t, l, from, best)
		}
	}
}

func checkWays(t *testing.T, l []api.Entry, from int, want []api.Way) {
	t.Helper()
	got, code := graph.Ways(l, from)
	if code != api.OK || !slices.EqualFunc(got, want, sameWay) {
		t.Fatalf("Ways(%v, %d): %v %d, want %v", l, from, got, code, want)
	}
}

// between: what it costs from each node to each other one, not through the
// node from, and through no drained ones: by one more node at a time.
func (w *net) between(from int) [api.MaxNodes][api.MaxNodes]int {
	const far = 1 << 30
	var cost [api.MaxNodes][api.MaxNodes]int
	for a := range cost {
		for b := range cost {
			cost[a][b] = far
			if w.linked(a, b) {
				cost[a][b] = w.cost[a][b]
			}
		}
		cost[a][a] = 0
	}
	for via := range cost {
		if via == from || w.drain[via] {
			continue
		}
		for a := range cost {
			for b := range cost {
				cost[a][b] = min(cost[a][b], cost[a][via]+cost[via][b])
			}
		}
	}
	return cost
}

// TestWaysOfAll: P2.5, nets of all nodes, held against another way to reckon.
func TestWaysOfAll(t *testing.T) {
	d := die(37)
	for range 300 {
		w := drawnNet(&d, api.MaxNodes, 1+d.N(20))
		l := w.kept()
		for from := range api.MaxNodes {
			between := w.between(from)
			want := slices.Repeat([]api.Way{{Cost: -1}}, api.MaxNodes)
			for to := range want {
				for hop := range between {
					if !w.linked(from, hop) || hop != to && w.drain[hop] || between[hop][to] >= 1<<30 {
						continue
					}
					cost := w.cost[from][hop] + between[hop][to]
					if want[to].Cost < 0 || cost < want[to].Cost {
						want[to] = api.Way{Cost: cost}
					}
					if cost == want[to].Cost {
						want[to].Hops = append(want[to].Hops, hop)
					}
				}
			}
			want[from] = api.Way{}
			checkWays(t, l, from, want)
		}
	}
}
