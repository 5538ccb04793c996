package net_test

import (
	"fmt"
	"slices"
	"testing"

	"tollbar/api"
)

// three nodes of a row: 2 has the address 9; all know of all, and those that
// are named have decided.
func three(decided ...int) []api.Act {
	l := script(link(0, 1, 2), link(1, 2, 3), give(2, 9, 8),
		tell(2), tell(1), send(2, 1), tell(0), send(0, 1), send(1, 0), send(1, 2))
	for _, n := range decided {
		l = append(l, decide(n))
	}
	return l
}

// TestExample: what the document says of the whole.
func TestExample(t *testing.T) {
	l := script(link(0, 1, 2), link(1, 2, 3), give(2, 9, 8), tell(2), tell(1), send(2, 1), tell(0),
		send(0, 1), send(1, 0), decide(0), decide(1))
	wantReply(t, "2 has not decided", l, walk(0, 9, 0), code(api.ErrNone))
	wantReply(t, "2 has decided", append(l, decide(2)), walk(0, 9, 0), path(5, 0, 1, 2))
}

// TestDecide: P4.6, a table is that of what was known when it was decided.
func TestDecide(t *testing.T) {
	wantReply(t, "decided", three(), decide(0), api.Reply{})
	wantReply(t, "of nothing", nil, decide(0), api.Reply{})
	wantReply(t, "not decided", three(1, 2), walk(0, 9, 0), code(api.ErrNone))
	wantReply(t, "not told", script(give(0, 9, 8), decide(0)), walk(0, 9, 0), code(api.ErrNone))
	wantReply(t, "its own alone", script(give(0, 9, 8), tell(0), decide(0)), walk(0, 9, 0), path(0, 0))

	_, was := run(t, three())
	_, is := run(t, three(0, 1, 2))
	if !sameStores(was, is) {
		t.Errorf("%v, want %v", is, was)
	}

	old := append(three(2), take(2, 9, 8), give(2, 8, 8), tell(2))
	wantReply(t, "the old table stays", old, walk(2, 9, 0), path(0, 2))
	wantReply(t, "the old table stays", old, walk(2, 8, 0), code(api.ErrNone))
	wantReply(t, "what is gone goes", append(old, decide(2)), walk(2, 9, 0), code(api.ErrNone))
	wantReply(t, "what is new comes", append(old, decide(2)), walk(2, 8, 0), path(0, 2))

	moved := append(three(0, 1, 2), give(0, 9, 8), tell(0), decide(0))
	wantReply(t, "another route to a prefix", moved, walk(0, 9, 0), path(0, 0))
	wantReply(t, "that of others stays", moved, walk(1, 9, 0), path(3, 1, 2))
	more := append(three(0, 1, 2), write(0, "p:1", "128/1"), decide(0))
	wantReply(t, "what is not new stays", more, walk(0, 9, 0), path(5, 0, 1, 2))
}

// TestWalk: P4.7, ordinary walks.
func TestWalk(t *testing.T) {
	l := three(0, 1, 2)
	wantReply(t, "from the end", l, walk(2, 9, 0), path(0, 2))
	wantReply(t, "from the middle", l, walk(1, 9, 0), path(3, 1, 2))
	wantReply(t, "from the beginning", l, walk(0, 9, 0), path(5, 0, 1, 2))
	wantReply(t, "from elsewhere", l, walk(3, 9, 0), code(api.ErrNone))
	wantReply(t, "to elsewhere", l, walk(0, 8, 0), code(api.ErrNone))
	wantReply(t, "the table of one in between is empty", three(0, 2), walk(0, 9, 0), code(api.ErrNone))
	for _, m := range []int{0, 1, 2, 11, 12, greatest} {
		wantReply(t, fmt.Sprint("one hop, the ", m, "-th"), l, walk(0, 9, m), path(5, 0, 1, 2))
	}
	before := append(three(0, 1, 2), walk(0, 9, 0))
	wantReply(t, "a second walk", before, walk(0, 9, 0), path(5, 0, 1, 2))
	wantAlike(t, "a walk leaves nothing behind", append(before, bare()...), append(three(0, 1, 2), bare()...), len(bare()))

	most := script(link(0, 1, 2), give(0, 0, 0), give(1, 128, 1), give(1, 200, 8),
		tell(0), tell(1), send(0, 1), send(1, 0), decide(0), decide(1))
	wantReply(t, "the most bits", most, walk(0, 200, 0), path(2, 0, 1))
	wantReply(t, "fewer bits", most, walk(0, 128, 0), path(2, 0, 1))
	wantReply(t, "no bits", most, walk(1, 127, 0), path(2, 1, 0))
	wantReply(t, "the lowest address", most, walk(0, 0, 0), path(0, 0))
	wantReply(t, "the highest address", most, walk(0, api.MaxAddr, 0), path(2, 0, 1))
}

// TestWalkCost: P4.7, it costs what the lines cost now, whatever was told of them.
func TestWalkCost(t *testing.T) {
	l := three(0, 1, 2)
	wantReply(t, "a dearer line", append(l, link(2, 1, 1000)), walk(0, 9, 0), path(1002, 0, 1, 2))
	wantReply(t, "a nearer way that nobody knows", append(l, link(0, 2, 1)), walk(0, 9, 0), path(5, 0, 1, 2))
	forged := script(link(0, 1, 7), write(0, "a:0", "1=1"), write(0, "a:1", "0=1"), write(0, "p:1", "9/8"), decide(0), give(1, 9, 8), tell(1), decide(1))
	wantReply(t, "told cheaper than it is", forged, walk(0, 9, 0), path(7, 0, 1))
}

// diamond: from 0 over 1, 2 or 3 to 4, and over 5 or 6 to 7, which has the
// address 9; all ways cost the same.
func diamond() []api.Act {
	var l []api.Act
	for _, s := range [][2]int{{0, 1}, {0, 2}, {0, 3}, {1, 4}, {2, 4}, {3, 4}, {4, 5}, {4, 6}, {5, 7}, {6, 7}} {
		l = append(l, link(s[0], s[1], 1))
	}
	l = append(l, give(7, 9, 8))
	return join(l, spread(l, 8, 4))
}

// TestHops: P4.7, the M-th hop of each node, round and round.
func TestHops(t *testing.T) {
	l := diamond()
	for m, want := range map[int][]int{
		0: {0, 1, 4, 5, 7}, 1: {0, 2, 4, 6, 7}, 2: {0, 3, 4, 5, 7},
		3: {0, 1, 4, 6, 7}, 4: {0, 2, 4, 5, 7}, 5: {0, 3, 4, 6, 7},
		6: {0, 1, 4, 5, 7}, 6*1000 + 5: {0, 3, 4, 6, 7},
		greatest: {0, greatest%3 + 1, 4, 6, 7},
	} {
		wantReply(t, fmt.Sprint("the ", m, "-th"), l, walk(0, 9, m), path(4, want...))
	}
	wantReply(t, "another line is cut", append(l, cut(0, 1)), walk(0, 9, 1), path(4, 0, 2, 4, 6, 7))
	wantReply(t, "that line is cut", append(l, cut(0, 1)), walk(0, 9, 0), code(api.ErrNone))
	wantReply(t, "the last line is cut", append(l, cut(7, 6)), walk(0, 9, 1), code(api.ErrNone))
	wantReply(t, "the last line is laid again", append(l, cut(7, 6), link(7, 6, 9)), walk(0, 9, 1), path(12, 0, 2, 4, 6, 7))
}

// TestWalkRefuses: P4.7, and which error comes first.
func TestWalkRefuses(t *testing.T) {
	l := three(0, 1, 2)
	for _, m := range []int{-1, -2, least, -1 << 32} {
		for _, addr := range []int{9, 8, -1, 256} {
			wantRefused(t, fmt.Sprint("M is ", m), l, walk(0, addr, m), api.ErrRange)
			wantRefused(t, fmt.Sprint("M is ", m), l, walk(2, addr, m), api.ErrRange)
			wantRefused(t, fmt.Sprint("M is ", m), l, walk(5, addr, m), api.ErrRange)
			wantRefused(t, fmt.Sprint("M is ", m, " in a loop"), loop(2, 1), walk(0, addr, m), api.ErrRange)
		}
	}
	for _, addr := range []int{-1, api.MaxAddr + 1, least, greatest, 1 << 32, 1<<32 + 9} {
		wantRefused(t, fmt.Sprint("address ", addr), l, walk(0, addr, 0), api.ErrRange)
		wantRefused(t, fmt.Sprint("address ", addr), l, walk(5, addr, 0), api.ErrRange)
	}
	wantRefused(t, "no route", l, walk(0, 8, 0), api.ErrNone)
	wantRefused(t, "no route at the second node", three(0), walk(0, 9, 0), api.ErrNone)
	wantRefused(t, "no route at the last node", three(0, 1), walk(0, 9, 0), api.ErrNone)
	wantRefused(t, "no line", append(l, cut(0, 1)), walk(0, 9, 0), api.ErrNone)
	wantRefused(t, "no line to the last node", append(l, cut(1, 2)), walk(0, 9, 0), api.ErrNone)
}

// misled: a node decides as if a neighbor, and it alone, had the address 9.
func misled(n, to int) []api.Act {
	return script(write(n, fmt.Sprint("a:", n), fmt.Sprint(to, "=1")), write(n, fmt.Sprint("a:", to), fmt.Sprint(n, "=1")),
		write(n, fmt.Sprint("p:", to), "9/8"), decide(n))
}

// loop: so many nodes, each of which is misled to the next one, and the last
// one to one that was there.
func loop(nodes, cost int) []api.Act {
	var l []api.Act
	for n := range nodes {
		next := (n + 1) % nodes
		l = join(l, script(link(n, next, cost)), misled(n, next))
	}
	return l
}

// TestLoop: P4.7, a walk that does not get there ends.
func TestLoop(t *testing.T) {
	for nodes := 2; nodes <= api.MaxNodes; nodes++ {
		for from := range nodes {
			wantRefused(t, fmt.Sprint("a ring of ", nodes, " from ", from), loop(nodes, 1), walk(from, 9, 0), api.ErrLoop)
		}
	}
	for nodes := 2; nodes < api.MaxNodes; nodes++ {
		l := join(loop(nodes, 1), script(link(11, 0, 1)), misled(11, 0))
		wantRefused(t, fmt.Sprint("into a ring of ", nodes), l, walk(11, 9, 5), api.ErrLoop)
	}
}

// row of all nodes, each of which is misled to the next one.
func row() []api.Act {
	var l []api.Act
	for n := range api.MaxNodes - 1 {
		l = join(l, script(link(n, n+1, api.MaxCost)), misled(n, n+1))
	}
	return l
}

// TestLongest: P4.7, a walk over all nodes is none that goes round, wherever it ends.
func TestLongest(t *testing.T) {
	var all []int
	for n := range api.MaxNodes {
		all = append(all, n)
	}
	there := append(row(), give(11, 9, 8), tell(11), decide(11))
	wantReply(t, "there", there, walk(0, 9, 0), path(11*api.MaxCost, all...))
	wantReply(t, "no route at the last one", row(), walk(0, 9, 0), code(api.ErrNone))
	on := join(row(), script(link(11, 0, 1)), misled(11, 0))
	wantReply(t, "no line from the last one", append(on, cut(0, 11)), walk(0, 9, 0), code(api.ErrNone))
	wantReply(t, "on from the last one", on, walk(0, 9, 0), code(api.ErrLoop))
}

// spread: all tell, each line is sent over in both directions so many times,
// and all decide.
func spread(lines []api.Act, nodes, times int) []api.Act {
	var l []api.Act
	for n := range nodes {
		l = append(l, tell(n))
	}
	for range times {
		for _, a := range lines {
			if a.Kind == api.Link {
				l = append(l, send(a.A, a.B), send(a.B, a.A))
			}
		}
	}
	for n := range nodes {
		l = append(l, decide(n))
	}
	return l
}

// field: what it costs to go from each node to each other one, as a test
// reckons it, by trying each node in between.
type field [api.MaxNodes][api.MaxNodes]int

const far = 1 << 40

func reckoned(lines []api.Act, drained []bool) field {
	var f field
	for a := range f {
		for b := range f {
			if a != b {
				f[a][b] = far
			}
		}
	}
	for _, a := range lines {
		if a.Kind == api.Link {
			f[a.A][a.B], f[a.B][a.A] = a.N, a.N
		}
	}
	for over := range f {
		if drained[over] {
			continue
		}
		for a := range f {
			for b := range f {
				f[a][b] = min(f[a][b], f[a][over]+f[over][b])
			}
		}
	}
	return f
}

// TestWhatComesOfIt: when all have told, and sent as often as there are nodes,
// all nodes that are connected know the same; when they have decided, walks
// take the cheapest ways.
func TestWhatComesOfIt(t *testing.T) {
	d := die(8)
	const nodes = 7
	for round := range 60 {
		var lines []api.Act
		for a := range nodes {
			for b := range a {
				if d.N(3) == 0 {
					lines = append(lines, link(a, b, 1+d.N(4)))
				}
			}
		}
		for i := range lines {
			j := d.N(i + 1)
			lines[i], lines[j] = lines[j], lines[i]
		}
		drained := make([]bool, api.MaxNodes)
		for n := range nodes {
			lines = append(lines, give(n, n, 8))
			if d.N(6) == 0 {
				drained[n] = true
				lines = append(lines, drain(n, 1))
			}
		}
		l := join(lines, spread(lines, nodes, nodes))
		for a := range nodes {
			l = append(l, walksFrom(&d, a, nodes)...)
		}
		replies, stores := run(t, l)
		wantSame(t, fmt.Sprint("net ", round), reckoned(lines, make([]bool, api.MaxNodes)), stores, nodes)
		wantCheapest(t, fmt.Sprint("net ", round), reckoned(lines, drained), l, replies)
	}
}

func walksFrom(d *die, a, nodes int) []api.Act {
	var l []api.Act
	for b := range nodes {
		l = append(l, walk(a, b, d.N(5)))
	}
	return l
}

func wantSame(t *testing.T, what string, f field, stores [][]api.Entry, nodes int) {
	t.Helper()
	for a := range nodes {
		connected := 0
		for b := range nodes {
			if f[a][b] < far {
				connected++
				if !slices.Equal(stores[a], stores[b]) {
					t.Errorf("%s: %d knows %v, %d knows %v", what, a, stores[a], b, stores[b])
				}
			}
		}
		if len(stores[a]) != 2*connected {
			t.Errorf("%s: %d knows %v, of %d nodes", what, a, stores[a], connected)
		}
	}
}

func wantCheapest(t *testing.T, what string, f field, l []api.Act, replies []api.Reply) {
	t.Helper()
	for i, a := range l {
		if a.Kind != api.Walk {
			continue
		}
		r, cost := replies[i], f[a.A][a.N]
		if cost >= far {
			if !sameReply(r, code(api.ErrNone)) {
				t.Errorf("%s: from %d to %d: %s", what, a.A, a.N, show(r))
			}
			continue
		}
		if r.Code != api.OK || r.Cost != cost || r.Path[0] != a.A || r.Path[len(r.Path)-1] != a.N {
			t.Errorf("%s: from %d to %d: %s, it costs %d", what, a.A, a.N, show(r), cost)
		}
	}
}
