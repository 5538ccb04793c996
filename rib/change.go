package rib

import (
	"slices"

	"tollbar/api"
)

// Diff of tables: routes that are to be set, and prefixes that are to go.
func Diff(a, b []api.Route) ([]api.Route, []api.Prefix, api.Errno) {
	if code := Check(a); code != api.OK {
		return nil, nil, code
	}
	if code := Check(b); code != api.OK {
		return nil, nil, code
	}
	var set []api.Route
	for _, r := range b {
		if i, there := find(a, r.Prefix); !there || !same(a[i], r) {
			set = append(set, fresh(r))
		}
	}
	var gone []api.Prefix
	for _, r := range a {
		if _, there := find(b, r.Prefix); !there {
			gone = append(gone, r.Prefix)
		}
	}
	return set, gone, api.OK
}

// same: of two routes of a prefix.
func same(a, b api.Route) bool {
	return a.Here == b.Here && a.Cost == b.Cost && slices.Equal(a.Hops, b.Hops)
}

// Patch a table.
func Patch(a []api.Route, set []api.Route, gone []api.Prefix) ([]api.Route, api.Errno) {
	if code := Check(a); code != api.OK {
		return nil, code
	}
	out := without(a, gone)
	for _, r := range set {
		out = lay(out, r)
		// Nothing that is set goes again, so that it stays too much whatever
		// follows; thus a table never grows long, however much is set.
		if len(out) > api.MaxRoutes {
			return nil, api.ErrSize
		}
	}
	if code := Check(out); code != api.OK {
		return nil, code
	}
	for i, r := range out {
		out[i] = fresh(r)
	}
	return out, api.OK
}

// without the routes of some prefixes, as a list of its own.
func without(l []api.Route, gone []api.Prefix) []api.Route {
	out := append([]api.Route(nil), l...)
	for _, p := range gone {
		if i, there := find(out, p); there {
			out = slices.Delete(out, i, i+1)
		}
	}
	return out
}

// lay a route at its place, or instead of that with its prefix. What may not
// be in a table is laid, too: it may be that another one comes instead of it.
func lay(l []api.Route, r api.Route) []api.Route {
	i, there := find(l, r.Prefix)
	if there {
		l[i] = r
		return l
	}
	return slices.Insert(l, i, r)
}
