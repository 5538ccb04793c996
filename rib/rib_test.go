package rib_test

import (
	"fmt"
	"testing"

	"tollbar/api"
	"tollbar/rib"
)

// TestCheckTakes: P3.1, tables that may be.
func TestCheckTakes(t *testing.T) {
	for what, l := range map[string][]api.Route{
		"none":                        nil,
		"an empty list":               {},
		"here":                        {here(0, 0)},
		"here, with an empty list":    {{Here: true, Hops: []int{}}},
		"a hop":                       {to(0, 0, 1, 0)},
		"a hop that costs nothing":    {to(0, 0, 0, 11)},
		"the greatest cost":           {to(255, 8, api.MaxPath, 3)},
		"all hops":                    {to(128, 1, 7, 0, 1, 2, 3, 4, 5, 6, 7, 8, 9, 10, 11)},
		"more bits of one address":    {here(0, 0), here(0, 1), to(0, 7, 1, 1), here(0, 8), here(1, 8)},
		"fewer bits of a greater one": {to(0, 8, 1, 1), here(128, 1), here(192, 2), here(255, 8)},
		"as many as may be":           many(api.MaxRoutes),
	} {
		wantCode(t, what, rib.Check(l), api.OK)
	}
	if n := len(allPrefixes()); n != 1<<(api.Bits+1)-1 {
		t.Errorf("%d prefixes", n)
	}
	for _, p := range allPrefixes() {
		wantCode(t, fmt.Sprint(p), rib.Check(table(here(p.Addr, p.Bits))), api.OK)
	}
}

// TestCheckRefuses: P3.1, tables that may not be.
func TestCheckRefuses(t *testing.T) {
	for what, c := range refused() {
		wantCode(t, what, rib.Check(c.l), c.code)
	}
}

func wantLookup(t *testing.T, l []api.Route, addr int, want api.Route) {
	t.Helper()
	got, code := rib.Lookup(l, addr)
	wantCode(t, fmt.Sprint("Lookup of ", addr), code, api.OK)
	if !sameRoute(got, want) {
		t.Errorf("Lookup of %d: %v, want %v", addr, got, want)
	}
}

func refuseLookup(t *testing.T, l []api.Route, addr int, want api.Errno) {
	t.Helper()
	got, code := rib.Lookup(l, addr)
	wantCode(t, fmt.Sprint("Lookup of ", addr), code, want)
	if !sameRoute(got, api.Route{}) {
		t.Errorf("Lookup of %d: %v with an error", addr, got)
	}
}

// TestLookup: P3.3, of the routes to whose prefix an address belongs that with the most bits.
func TestLookup(t *testing.T) {
	l := table(to(0, 0, 9, 1), to(64, 2, 5, 2, 3), here(64, 8), to(128, 1, 7, 4), to(254, 7, 1, 5), here(255, 8))
	for addr, want := range map[int]api.Route{
		0: l[0], 63: l[0], 64: l[2], 65: l[1], 127: l[1], 128: l[3], 253: l[3], 254: l[4], 255: l[5],
	} {
		wantLookup(t, l, addr, want)
	}
	for addr := range api.MaxAddr + 1 {
		wantLookup(t, table(here(0, 0)), addr, here(0, 0))
	}
	own := table(to(9, 8, 5, 1))
	wantLookup(t, own, 9, own[0])
	for addr := range api.MaxAddr + 1 {
		if addr != 9 {
			refuseLookup(t, own, addr, api.ErrNone)
		}
		refuseLookup(t, nil, addr, api.ErrNone)
	}
}

// TestLookupRefuses: P3.3, and which error comes first.
func TestLookupRefuses(t *testing.T) {
	for _, addr := range []int{-1, api.MaxAddr + 1, -1 << 63, 1<<63 - 1, -256, 1 << 32} {
		refuseLookup(t, nil, addr, api.ErrRange)
		refuseLookup(t, table(here(0, 0)), addr, api.ErrRange)
		for code, l := range oneOfEach() {
			refuseLookup(t, l, addr, code)
		}
	}
	for _, c := range refused() {
		refuseLookup(t, c.l, 0, c.code)
		refuseLookup(t, c.l, 64, c.code)
	}
}

// TestLookupDrawn: P3.3, held against all routes, digit by digit.
func TestLookupDrawn(t *testing.T) {
	d := die(51)
	for range 60 {
		var l []api.Route
		often := 3 + d.N(200)
		for _, p := range allPrefixes() {
			if d.N(often) == 0 {
				l = append(l, routeOf(d.N(4), p))
			}
		}
		for addr := range api.MaxAddr + 1 {
			most := -1
			for i, r := range l {
				if belongs(addr, r.Prefix) && (most < 0 || r.Prefix.Bits > l[most].Prefix.Bits) {
					most = i
				}
			}
			if most < 0 {
				refuseLookup(t, l, addr, api.ErrNone)
			} else {
				wantLookup(t, l, addr, l[most])
			}
		}
	}
}
