package graph

import (
	"strconv"

	"tollbar/api"
	"tollbar/store"
)

// none: no node, and what it costs to go where no way leads.
const none = -1

// adjs: what each node tells of its links.
type adjs [api.MaxNodes]api.Adj

// costs of the links from each node to each other one; 0: there is none.
type costs [api.MaxNodes][api.MaxNodes]int

// AdjKey: where a node tells of its links in a store.
func AdjKey(node int) string { return "a:" + strconv.Itoa(node) }

// PrefixesKey: where a node tells of its prefixes in a store.
func PrefixesKey(node int) string { return "p:" + strconv.Itoa(node) }

// toldAdj: nothing, if there is nothing that can be read.
func toldAdj(l []api.Entry, node int) api.Adj {
	e, _ := store.Get(l, AdjKey(node))
	a, _ := ReadAdj(e.Value)
	return a
}

// ToldPrefixes: what a node tells of its prefixes in a store; none, if there
// is nothing that can be read, no such node, or no such store.
func ToldPrefixes(l []api.Entry, node int) []api.Prefix {
	if !store.IsNode(node) {
		return nil
	}
	e, _ := store.Get(l, PrefixesKey(node))
	p, _ := ReadPrefixes(e.Value)
	return p
}

// Ways of a store: from a node to all.
func Ways(l []api.Entry, from int) ([]api.Way, api.Errno) {
	if code := store.Check(l); code != api.OK {
		return nil, code
	}
	if !store.IsNode(from) {
		return nil, api.ErrRange
	}
	var told adjs
	for n := range told {
		told[n] = toldAdj(l, n)
	}
	s := newSearch(from)
	s.run(&told)
	return s.ways(), api.OK
}

// linkCosts: of what is told only that counts which both ends tell.
func linkCosts(told *adjs) costs {
	var said, links costs
	for n, a := range told {
		for _, s := range a.Sides {
			said[n][s.Node] = s.Cost
		}
	}
	for a := range links {
		for b := range links {
			if said[b][a] > 0 {
				links[a][b] = said[a][b]
			}
		}
	}
	return links
}

// search for the cheapest ways from a node. Each link costs something: when
// the cheapest node of those that are not done is taken, no way to it can
// come any more, so that its cost and its hops are whole.
type search struct {
	from int
	cost [api.MaxNodes]int
	hops [api.MaxNodes][api.MaxNodes]bool
	done [api.MaxNodes]bool
}

func newSearch(from int) *search {
	s := &search{from: from}
	for n := range s.cost {
		s.cost[n] = none
	}
	s.cost[from] = 0
	return s
}

func (s *search) run(told *adjs) {
	links := linkCosts(told)
	for n := s.nearest(); n != none; n = s.nearest() {
		s.done[n] = true
		if told[n].Drain && n != s.from {
			continue
		}
		for next, cost := range links[n] {
			if cost > 0 {
				s.step(n, next, s.cost[n]+cost)
			}
		}
	}
}

// nearest of the nodes that are reached, and not done.
func (s *search) nearest() int {
	best := none
	for n, cost := range s.cost {
		if cost == none || s.done[n] {
			continue
		}
		if best == none || cost < s.cost[best] {
			best = n
		}
	}
	return best
}

// step from a node to the next one, over a way that costs so much: a cheaper
// one comes instead of all others, one that costs the same beside them.
func (s *search) step(n, next, cost int) {
	if s.cost[next] == none || cost < s.cost[next] {
		s.cost[next] = cost
		s.hops[next] = [api.MaxNodes]bool{}
	}
	if cost > s.cost[next] {
		return
	}
	if n == s.from {
		s.hops[next][next] = true
	}
	for hop, is := range s.hops[n] {
		if is {
			s.hops[next][hop] = true
		}
	}
}

func (s *search) ways() []api.Way {
	var l []api.Way
	for n := range s.cost {
		w := api.Way{Cost: s.cost[n]}
		for hop, is := range s.hops[n] {
			if is {
				w.Hops = append(w.Hops, hop)
			}
		}
		l = append(l, w)
	}
	return l
}
