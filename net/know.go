package net

import (
	"tollbar/api"
	"tollbar/graph"
	"tollbar/store"
)

func (w *network) tell(a api.Act) api.Reply {
	adj, code := graph.ShowAdj(w.adj(a.A))
	if code != api.OK {
		return refused(code)
	}
	prefixes, code := graph.ShowPrefixes(w.nodes[a.A].prefixes)
	if code != api.OK {
		return refused(code)
	}
	return w.put(a.A,
		told{graph.AdjKey(a.A), adj},
		told{graph.PrefixesKey(a.A), prefixes})
}

// adj: what a node has to tell of its lines.
func (w *network) adj(of int) api.Adj {
	adj := api.Adj{Drain: w.nodes[of].drained}
	for other, cost := range w.lines[of] {
		if cost > 0 {
			adj.Sides = append(adj.Sides, api.Side{Node: other, Cost: cost})
		}
	}
	return adj
}

// told: what a node wants to stand in its store.
type told struct{ key, value string }

// put in the store of a node what does not stand there yet. What is told comes
// as a whole, or not at all.
func (w *network) put(of int, all ...told) api.Reply {
	l := w.nodes[of].knows
	var keys []string
	for _, t := range all {
		if stands(l, of, t) {
			continue
		}
		next, code := store.Put(l, of, t.key, t.value)
		if code != api.OK {
			return refused(code)
		}
		l = next
		keys = append(keys, t.key)
	}
	w.nodes[of].knows = l
	return api.Reply{Keys: keys}
}

// stands: as the node's own. The same value that another one has put does not
// count: a node takes back what others have said for it.
func stands(l []api.Entry, of int, t told) bool {
	e, code := store.Get(l, t.key)
	return code == api.OK && e.Origin == of && e.Value == t.value
}

func (w *network) send(a api.Act) api.Reply {
	if !store.IsNode(a.B) {
		return refused(api.ErrRange)
	}
	if w.lines[a.A][a.B] == 0 {
		return refused(api.ErrNone)
	}
	b, code := store.Encode(w.nodes[a.A].knows)
	if code != api.OK {
		return refused(code)
	}
	if a.N >= 0 {
		b[a.N%len(b)] ^= 1
	}
	return w.receive(a.B, b)
}

func (w *network) receive(to int, b []byte) api.Reply {
	came, code := store.Decode(b)
	if code != api.OK {
		return refused(code)
	}
	l, keys, code := store.Merge(w.nodes[to].knows, came)
	if code != api.OK {
		return refused(code)
	}
	w.nodes[to].knows = l
	return api.Reply{Keys: keys}
}

// write puts even what stands there already: that is passed over in telling
// alone.
func (w *network) write(a api.Act) api.Reply {
	l, code := store.Put(w.nodes[a.A].knows, a.A, a.Key, a.Value)
	if code != api.OK {
		return refused(code)
	}
	w.nodes[a.A].knows = l
	return api.Reply{Keys: []string{a.Key}}
}
