package rib_test

import (
	"slices"
	"testing"

	"tollbar/api"
	"tollbar/probe"
)

type die = probe.Die

var (
	kept          = probe.Kept
	refusedStores = probe.RefusedStores
	prefixes      = probe.Prefixes
)

func here(addr, bits int) api.Route {
	return api.Route{Prefix: api.Prefix{Addr: addr, Bits: bits}, Here: true}
}

func to(addr, bits, cost int, hops ...int) api.Route {
	return api.Route{Prefix: api.Prefix{Addr: addr, Bits: bits}, Cost: cost, Hops: hops}
}

func table(l ...api.Route) []api.Route { return l }

func wantCode(t *testing.T, what string, got, want api.Errno) {
	t.Helper()
	if got != want {
		t.Errorf("%.200s: code %d, want %d", what, got, want)
	}
}

func sameRoute(a, b api.Route) bool {
	return a.Prefix == b.Prefix && a.Here == b.Here && a.Cost == b.Cost && slices.Equal(a.Hops, b.Hops)
}

func sameTable(a, b []api.Route) bool { return slices.EqualFunc(a, b, sameRoute) }

func wantTable(t *testing.T, what string, got, want []api.Route) {
	t.Helper()
	if !sameTable(got, want) {
		t.Errorf("%s: %v, want %v", what, got, want)
	}
}

// allPrefixes that may be told, in their order.
func allPrefixes() []api.Prefix {
	var l []api.Prefix
	for addr := range api.MaxAddr + 1 {
		for bits := range api.Bits + 1 {
			if addr%(256>>bits) == 0 {
				l = append(l, api.Prefix{Addr: addr, Bits: bits})
			}
		}
	}
	return l
}

// digits of an address, the highest one first.
func digits(addr int) string {
	s := ""
	for range api.Bits {
		s = string('0'+rune(addr%2)) + s
		addr /= 2
	}
	return s
}

// belongs: as a test thinks of it.
func belongs(addr int, p api.Prefix) bool {
	return digits(addr)[:p.Bits] == digits(p.Addr)[:p.Bits]
}

// many: so many routes that may stand in a table.
func many(n int) []api.Route {
	var l []api.Route
	for i, p := range allPrefixes()[:n] {
		l = append(l, routeOf(i, p))
	}
	return l
}

// routeOf one kind or another, by a number.
func routeOf(kind int, p api.Prefix) api.Route {
	switch kind % 4 {
	case 0:
		return here(p.Addr, p.Bits)
	case 1:
		return to(p.Addr, p.Bits, 3, 1)
	case 2:
		return to(p.Addr, p.Bits, 3, 1, 5)
	}
	return to(p.Addr, p.Bits, 4, 5)
}

// drawn: a table of some of the prefixes; few of them, so that two tables
// share some.
func drawn(d *die, often int) []api.Route {
	var l []api.Route
	for _, p := range allPrefixes()[:60] {
		if d.N(often) == 0 {
			l = append(l, routeOf(d.N(4), p))
		}
	}
	return l
}

// refused: tables that Check refuses, and with which code.
func refused() map[string]struct {
	l    []api.Route
	code api.Errno
} {
	type row = struct {
		l    []api.Route
		code api.Errno
	}
	return map[string]row{
		"too many":                    {many(api.MaxRoutes + 1), api.ErrSize},
		"too many, and not in form":   {make([]api.Route, api.MaxRoutes+1), api.ErrSize},
		"far too many":                {make([]api.Route, 1<<16), api.ErrSize},
		"neither here nor a hop":      {table(api.Route{}), api.ErrForm},
		"no hop, but an empty list":   {table(api.Route{Cost: 3, Hops: []int{}}), api.ErrForm},
		"bits below 0":                {table(here(0, -1)), api.ErrForm},
		"bits too many":               {table(here(0, api.Bits+1)), api.ErrForm},
		"greatest bits of all":        {table(to(0, 1<<63-1, 1, 1)), api.ErrForm},
		"least bits of all":           {table(to(0, -1<<63, 1, 1)), api.ErrForm},
		"address below 0":             {table(here(-1, 8)), api.ErrForm},
		"address too great":           {table(here(api.MaxAddr+1, 8)), api.ErrForm},
		"a bit behind the prefix":     {table(here(64, 1)), api.ErrForm},
		"a hop, and a bit behind":     {table(to(255, 7, 1, 1)), api.ErrForm},
		"cost below 0":                {table(to(0, 0, -1, 1)), api.ErrForm},
		"least cost of all":           {table(to(0, 0, -1<<63, 1)), api.ErrForm},
		"cost too great":              {table(to(0, 0, api.MaxPath+1, 1)), api.ErrForm},
		"greatest cost of all":        {table(to(0, 0, 1<<63-1, 1)), api.ErrForm},
		"here, with a cost":           {table(api.Route{Here: true, Cost: 1}), api.ErrForm},
		"here, with a cost below 0":   {table(api.Route{Here: true, Cost: -1}), api.ErrForm},
		"here, with a hop":            {table(api.Route{Here: true, Hops: []int{1}}), api.ErrForm},
		"here, with a cost and a hop": {table(api.Route{Here: true, Cost: 1, Hops: []int{1}}), api.ErrForm},
		"hop below 0":                 {table(to(0, 0, 1, -1)), api.ErrForm},
		"hop too great":               {table(to(0, 0, 1, api.MaxNodes)), api.ErrForm},
		"last hop too great":          {table(to(0, 0, 1, 0, 5, api.MaxNodes)), api.ErrForm},
		"greatest hop of all":         {table(to(0, 0, 1, 1<<63-1)), api.ErrForm},
		"a hop twice":                 {table(to(0, 0, 1, 5, 5)), api.ErrForm},
		"hops fall":                   {table(to(0, 0, 1, 5, 4)), api.ErrForm},
		"hops fall at the end":        {table(to(0, 0, 1, 1, 5, 4)), api.ErrForm},
		"more hops than nodes":        {table(to(0, 0, 1, 0, 1, 2, 3, 4, 5, 6, 7, 8, 9, 10, 11, 11)), api.ErrForm},
		"very many hops":              {table(to(0, 0, 1, make([]int, 1<<16)...)), api.ErrForm},
		"the last one not in form":    {table(here(0, 0), to(0, 1, 1, 1), api.Route{}), api.ErrForm},
		"a prefix twice":              {table(here(64, 2), to(64, 2, 1, 1)), api.ErrOrder},
		"addresses fall":              {table(here(64, 2), here(0, 8)), api.ErrOrder},
		"bits fall":                   {table(here(64, 3), here(64, 2)), api.ErrOrder},
		"order at the end":            {table(here(0, 0), here(64, 2), to(0, 1, 1, 1)), api.ErrOrder},
		"order ahead of form":         {table(here(64, 2), here(0, 0), api.Route{}), api.ErrOrder},
		"form ahead of order":         {table(to(64, 2, 1), here(128, 1), here(0, 0)), api.ErrForm},
		"form and order of one":       {table(here(64, 2), to(0, 0, 1, -1)), api.ErrForm},
		"prefix and order of one":     {table(here(64, 2), here(1, 1)), api.ErrForm},
	}
}

// oneOfEach code with which Check refuses.
func oneOfEach() map[api.Errno][]api.Route {
	return map[api.Errno][]api.Route{
		api.ErrSize:  refused()["too many"].l,
		api.ErrForm:  refused()["hops fall"].l,
		api.ErrOrder: refused()["addresses fall"].l,
	}
}
