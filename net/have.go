package net

import (
	"slices"
	"sort"

	"tollbar/api"
	"tollbar/graph"
	"tollbar/store"
)

func (w *network) link(a api.Act) api.Reply {
	if !store.IsNode(a.B) || a.N < 1 || a.N > api.MaxCost {
		return refused(api.ErrRange)
	}
	if a.A == a.B {
		return refused(api.ErrForm)
	}
	w.lay(a.A, a.B, a.N)
	return api.Reply{}
}

func (w *network) cut(a api.Act) api.Reply {
	if !store.IsNode(a.B) {
		return refused(api.ErrRange)
	}
	if a.A == a.B {
		return refused(api.ErrForm)
	}
	if w.lines[a.A][a.B] == 0 {
		return refused(api.ErrNone)
	}
	w.lay(a.A, a.B, 0)
	return api.Reply{}
}

// lay a line in both directions, so that they can't differ.
func (w *network) lay(a, b, cost int) {
	w.lines[a][b] = cost
	w.lines[b][a] = cost
}

func (w *network) drain(a api.Act) api.Reply {
	if a.N != 0 && a.N != 1 {
		return refused(api.ErrRange)
	}
	w.nodes[a.A].drained = a.N == 1
	return api.Reply{}
}

func (w *network) give(a api.Act) api.Reply {
	if code := graph.CheckPrefixes([]api.Prefix{a.Prefix}); code != api.OK {
		return refused(code)
	}
	n := &w.nodes[a.A]
	all := with(n.prefixes, a.Prefix)
	if code := graph.CheckPrefixes(all); code != api.OK {
		return refused(code)
	}
	n.prefixes = all
	return api.Reply{}
}

// with one prefix more, in their order, as a list of its own: what comes of it
// may be refused, and then that which was must stay.
func with(l []api.Prefix, p api.Prefix) []api.Prefix {
	all := append(slices.Clone(l), p)
	sort.Slice(all, func(i, j int) bool { return graph.ComparePrefixes(all[i], all[j]) < 0 })
	return all
}

func (w *network) take(a api.Act) api.Reply {
	n := &w.nodes[a.A]
	i := slices.Index(n.prefixes, a.Prefix)
	if i < 0 {
		return refused(api.ErrNone)
	}
	n.prefixes = slices.Delete(n.prefixes, i, i+1)
	return api.Reply{}
}
