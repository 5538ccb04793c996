package net

import (
	"tollbar/api"
	"tollbar/rib"
)

func (w *network) decide(a api.Act) api.Reply {
	n := &w.nodes[a.A]
	wanted, code := rib.Table(n.knows, a.A)
	if code != api.OK {
		return refused(code)
	}
	set, gone, code := rib.Diff(n.table, wanted)
	if code != api.OK {
		return refused(code)
	}
	table, code := rib.Patch(n.table, set, gone)
	if code != api.OK {
		return refused(code)
	}
	n.table = table
	return api.Reply{}
}

func (w *network) walk(a api.Act) api.Reply {
	if a.M < 0 {
		return refused(api.ErrRange)
	}
	at := a.A
	path, cost := []int{at}, 0
	for {
		route, code := rib.Lookup(w.nodes[at].table, a.N)
		if code != api.OK {
			return refused(code)
		}
		if route.Here {
			return api.Reply{Path: path, Cost: cost}
		}
		if len(path) > api.MaxNodes {
			return refused(api.ErrLoop)
		}
		hop := route.Hops[a.M%len(route.Hops)]
		line := w.lines[at][hop]
		if line == 0 {
			return refused(api.ErrNone)
		}
		at = hop
		path = append(path, hop)
		cost += line
	}
}
