package rib

import (
	"slices"

	"tollbar/api"
	"tollbar/graph"
)

// Table of a node, of what a store tells.
func Table(l []api.Entry, node int) ([]api.Route, api.Errno) {
	ways, code := graph.Ways(l, node)
	if code != api.OK {
		return nil, code
	}
	var out []api.Route
	for n, w := range ways {
		if w.Cost < 0 {
			continue
		}
		for _, p := range graph.ToldPrefixes(l, n) {
			out = offer(out, api.Route{Prefix: p, Here: n == node, Cost: w.Cost, Hops: w.Hops})
		}
	}
	return out, api.OK
}

// offer a route to a table: it comes, or what is best of it and of that with
// its prefix. What the table gets shares no hops with what is offered, since
// one way is offered for all the prefixes of a node.
func offer(l []api.Route, r api.Route) []api.Route {
	i, there := find(l, r.Prefix)
	if !there {
		return slices.Insert(l, i, fresh(r))
	}
	l[i] = best(l[i], fresh(r))
	return l
}

// best of two routes of a prefix: the cheaper one; both, if they cost the
// same. One that is Here costs less than all others, since each link costs
// something.
func best(a, b api.Route) api.Route {
	if b.Cost < a.Cost {
		return b
	}
	if b.Cost == a.Cost {
		a.Hops = unite(a.Hops, b.Hops)
	}
	return a
}

func unite(a, b []int) []int {
	l := slices.Concat(a, b)
	slices.Sort(l)
	return slices.Compact(l)
}
