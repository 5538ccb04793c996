package rib_test

import (
	"fmt"
	"reflect"
	"slices"
	"testing"

	"tollbar/api"
	"tollbar/probe"
	"tollbar/rib"
)

const spareHop = -7

var (
	sparePrefix = api.Prefix{Addr: -7, Bits: -7}
	spareEntry  = api.Entry{Key: "spare", Version: -7}
)

// spareRoute: the hops that stand in spare room must stay, too.
func spareRoute() api.Route {
	return api.Route{Prefix: sparePrefix, Cost: -7, Hops: []int{spareHop}}
}

// roomy: the same table, with spare room at the routes and at the hops of each.
func roomy(l []api.Route) []api.Route {
	l = probe.Roomy(l, spareRoute())
	for i := range l {
		l[i].Hops = probe.Roomy(l[i].Hops, spareHop)
	}
	return l
}

// all of a table as a text, its spare room and that of the hops of each, too.
func all(l []api.Route) string {
	var b []byte
	for _, r := range l[:cap(l)] {
		b = fmt.Append(b, r.Prefix, r.Here, r.Cost, r.Hops[:cap(r.Hops)])
	}
	return string(b)
}

// spoil a table, its spare room too, and the hops of each.
func spoil(l []api.Route) {
	for _, r := range l[:cap(l)] {
		probe.Spoil(r.Hops, -9)
	}
	probe.Spoil(l, api.Route{Cost: -9})
}

// answer of any call of the package.
type answer struct {
	routes []api.Route
	gone   []api.Prefix
	code   api.Errno
}

func (a answer) text() string { return fmt.Sprint(a.routes, a.gone, int(a.code)) }

func (a answer) spoil() {
	spoil(a.routes)
	probe.Spoil(a.gone, api.Prefix{Addr: -9})
}

// calls that take two tables and prefixes, or less.
func calls() map[string]func(a, b []api.Route, gone []api.Prefix) answer {
	return map[string]func(a, b []api.Route, gone []api.Prefix) answer{
		"Check": func(a, b []api.Route, gone []api.Prefix) answer {
			return answer{code: rib.Check(a)}
		},
		"Lookup": func(a, b []api.Route, gone []api.Prefix) answer {
			r, code := rib.Lookup(a, 0)
			return answer{routes: table(r), code: code}
		},
		"Diff": func(a, b []api.Route, gone []api.Prefix) answer {
			set, gone, code := rib.Diff(a, b)
			return answer{set, gone, code}
		},
		"Patch": func(a, b []api.Route, gone []api.Prefix) answer {
			l, code := rib.Patch(a, b, gone)
			return answer{routes: l, code: code}
		},
	}
}

// tables that may be, and some that may not.
func tables() [][]api.Route {
	d := die(61)
	l := [][]api.Route{nil, {}, table(here(0, 0)), table(to(0, 0, 3, 1, 2, 3)), many(api.MaxRoutes), many(api.MaxRoutes - 1)}
	for range 8 {
		l = append(l, drawn(&d, 2))
	}
	for _, t := range oneOfEach() {
		l = append(l, t)
	}
	return append(l, table(to(0, 8, 1, 2, 1)), table(to(64, 8, -1, 2, 3), to(64, 8, 1, 2, 3)))
}

// TestTablesStay: P3.1, P3.3 and P3.4, tables that are handed in.
func TestTablesStay(t *testing.T) {
	goners := [][]api.Prefix{nil, {}, allPrefixes()[:3], prefixes(64, 1, 0, 0)}
	for name, run := range calls() {
		for i, a := range tables() {
			for j, b := range tables() {
				what := fmt.Sprint(name, " ", i, " ", j)
				wantStay(t, what, run, roomy(a), roomy(b), probe.Roomy(goners[(i+j)%len(goners)], sparePrefix))
			}
		}
	}
}

// wantStay: what is handed in stays as it was, its spare room too; spoiling an
// answer spoils neither that nor the next answer, and spoiling what was handed
// in does not spoil an answer.
func wantStay(t *testing.T, what string, run func(a, b []api.Route, gone []api.Prefix) answer, a, b []api.Route, gone []api.Prefix) {
	t.Helper()
	handed := func() string { return all(a) + "|" + all(b) + "|" + fmt.Sprint(gone[:cap(gone)]) }
	was := handed()
	got := run(a, b, gone)
	text := got.text()
	again := run(a, b, gone)
	if again.text() != text {
		t.Fatalf("%s: another answer the second time", what)
	}
	again.spoil()
	if handed() != was {
		t.Fatalf("%s: what was handed in is changed", what)
	}
	spoil(a)
	spoil(b)
	probe.Spoil(gone, sparePrefix)
	if got.text() != text {
		t.Fatalf("%s: the answer shares memory with another one, or with what was handed in", what)
	}
}

// TestOneTableTwice: both arguments may be one list, and all its routes may share hops.
func TestOneTableTwice(t *testing.T) {
	hops := []int{1, 5}
	one := roomy(table(to(0, 0, 3), to(0, 1, 4), to(9, 8, 5)))
	for i := range one {
		one[i].Hops = hops
	}
	was := all(one)
	wantDiff(t, "one table", one, one, nil, nil)
	got, code := rib.Patch(one, one, nil)
	wantCode(t, "one table", code, api.OK)
	wantTable(t, "one table", got, one)
	wantApart(t, "one table, patched", got)
	set, _, _ := rib.Diff(nil, one)
	wantApart(t, "one table, wanted", set)
	if all(one) != was {
		t.Errorf("one table is changed: %s", all(one))
	}
}

// wantApart: spoiling the hops of one route spoils those of no other one.
func wantApart(t *testing.T, what string, l []api.Route) {
	t.Helper()
	for i := range l {
		var was []string
		for _, r := range l {
			was = append(was, fmt.Sprint(r.Hops))
		}
		probe.Spoil(l[i].Hops, -9)
		for j, r := range l {
			if j != i && fmt.Sprint(r.Hops) != was[j] {
				t.Fatalf("%s: the routes %d and %d share hops", what, i, j)
			}
		}
	}
}

// TestHopsAreApart: P3.2 and P3.4, no two lists of one answer share memory.
func TestHopsAreApart(t *testing.T) {
	d := die(67)
	for i := range 40 {
		l, m := drawnStore(&d, api.MaxNodes), drawnStore(&d, api.MaxNodes)
		x, _ := rib.Table(l, i%api.MaxNodes)
		y, _ := rib.Table(m, i%api.MaxNodes)
		set, gone, _ := rib.Diff(x, y)
		z, _ := rib.Patch(x, set, gone)
		wantApart(t, "Table", x)
		wantApart(t, "Diff", set)
		wantApart(t, "Patch", z)
		wantTable(t, "what was handed in", y, must(rib.Table(m, i%api.MaxNodes)))
	}
}

func must(l []api.Route, _ api.Errno) []api.Route { return l }

// TestStoresStay: P3.2, a store that is handed in; what is answered is new each time.
func TestStoresStay(t *testing.T) {
	d := die(71)
	stores := [][]api.Entry{nil, {}, kept("p:0", "9/8")}
	for _, l := range refusedStores() {
		stores = append(stores, l)
	}
	for range 20 {
		stores = append(stores, drawnStore(&d, api.MaxNodes))
	}
	for i, l := range stores {
		for node := -1; node <= api.MaxNodes; node++ {
			l := probe.Roomy(l, spareEntry)
			was := slices.Clone(l[:cap(l)])
			got, code := rib.Table(l, node)
			text := answer{routes: got, code: code}.text()
			again, code := rib.Table(l, node)
			if (answer{routes: again, code: code}).text() != text {
				t.Fatalf("store %d: another answer the second time", i)
			}
			spoil(again)
			if !slices.Equal(l[:cap(l)], was) {
				t.Fatalf("store %d is changed", i)
			}
			probe.Spoil(l, spareEntry)
			if (answer{routes: got, code: code}).text() != text {
				t.Fatalf("store %d: the answer shares memory", i)
			}
		}
	}
}

// TestWildArguments: no call panics, each ends, and with an error all else is zero.
func TestWildArguments(t *testing.T) {
	numbers := []int{-1 << 63, -1 << 32, -1, 0, 1, 2, 8, 9, 11, 12, 63, 64, 128, 255, 256, 1 << 20, 1<<20 + 1, 1<<63 - 1}
	d := die(73)
	pick := func() int { return numbers[d.N(len(numbers))] }
	wild := func() []api.Route {
		var l []api.Route
		for range d.N(4) {
			r := api.Route{Prefix: api.Prefix{Addr: pick(), Bits: pick()}, Here: d.N(2) == 0}
			if d.N(3) == 0 {
				r.Prefix = allPrefixes()[d.N(511)]
			}
			if d.N(2) == 0 {
				r.Cost = pick()
			}
			for range d.N(3) {
				r.Hops = append(r.Hops, pick())
			}
			l = append(l, r)
		}
		return l
	}
	zero := func(what string, code api.Errno, answers ...any) {
		for _, a := range answers {
			v := reflect.ValueOf(a)
			if code != api.OK && !v.IsZero() && !(v.Kind() == reflect.Slice && v.Len() == 0) {
				t.Errorf("%s: %.100v with the error %d", what, a, code)
			}
		}
	}
	for range 5000 {
		a, b := wild(), wild()
		var gone []api.Prefix
		for range d.N(4) {
			gone = append(gone, api.Prefix{Addr: pick(), Bits: pick()})
		}
		if d.N(3) == 0 {
			a = drawn(&d, 5)
		}
		rib.Check(a)
		r, code := rib.Lookup(a, pick())
		zero("Lookup", code, r)
		set, goes, code := rib.Diff(a, b)
		zero("Diff", code, set, goes)
		l, code := rib.Patch(a, b, gone)
		zero("Patch", code, l)
		told := kept("a:0", fmt.Sprint(pick(), "=", pick()), "p:0", fmt.Sprint(pick(), "/", pick()))
		l, code = rib.Table(told, pick())
		zero("Table", code, l)
	}
}
