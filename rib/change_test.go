package rib_test

import (
	"fmt"
	"slices"
	"testing"

	"tollbar/api"
	"tollbar/graph"
	"tollbar/rib"
)

func wantDiff(t *testing.T, what string, a, b []api.Route, set []api.Route, gone []api.Prefix) {
	t.Helper()
	gotSet, gotGone, code := rib.Diff(a, b)
	wantCode(t, what, code, api.OK)
	wantTable(t, what+", set", gotSet, set)
	if !slices.Equal(gotGone, gone) {
		t.Errorf("%s, gone: %v, want %v", what, gotGone, gone)
	}
}

// TestDiff: P3.4, what is to be set, and what is to go.
func TestDiff(t *testing.T) {
	is := table(here(0, 0), to(9, 8, 5, 1, 2), to(64, 2, 3, 3))
	wantDiff(t, "nothing to nothing", nil, nil, nil, nil)
	wantDiff(t, "the same", is, slices.Clone(is), nil, nil)
	wantDiff(t, "from nothing", nil, is, is, nil)
	wantDiff(t, "to nothing", is, nil, nil, prefixes(0, 0, 9, 8, 64, 2))
	wantDiff(t, "one goes, one comes", is, table(is[0], is[1], here(65, 8)), table(here(65, 8)), prefixes(64, 2))
	for what, r := range map[string]api.Route{
		"another cost":    to(9, 8, 6, 1, 2),
		"one hop less":    to(9, 8, 5, 1),
		"one hop more":    to(9, 8, 5, 1, 2, 3),
		"another hop":     to(9, 8, 5, 1, 3),
		"here now":        here(9, 8),
		"no hop the same": to(9, 8, 5, 4, 5),
	} {
		wantDiff(t, what, is, table(is[0], r, is[2]), table(r), nil)
		wantDiff(t, what+", back", table(is[0], r, is[2]), is, table(is[1]), nil)
	}
	wantDiff(t, "here, and no more", table(here(9, 8)), table(to(9, 8, 0, 1)), table(to(9, 8, 0, 1)), nil)
	wantDiff(t, "other bits", table(here(0, 1)), table(here(0, 2)), table(here(0, 2)), prefixes(0, 1))
	wantDiff(t, "another address", table(here(1, 8)), table(here(2, 8)), table(here(2, 8)), prefixes(1, 8))
	wantDiff(t, "here with a list or without", table(here(0, 0)), table(api.Route{Here: true, Hops: []int{}}), nil, nil)

	full := many(api.MaxRoutes)
	last := allPrefixes()[300:][:api.MaxRoutes]
	var other []api.Route
	for _, p := range last {
		other = append(other, here(p.Addr, p.Bits))
	}
	var gone []api.Prefix
	for _, r := range full {
		gone = append(gone, r.Prefix)
	}
	wantDiff(t, "all of as many as may be", full, other, other, gone)
}

// TestDiffRefuses: P3.4, the first table, then the second one.
func TestDiffRefuses(t *testing.T) {
	refuse := func(what string, a, b []api.Route, want api.Errno) {
		t.Helper()
		set, gone, code := rib.Diff(a, b)
		wantCode(t, what, code, want)
		if len(set) > 0 || len(gone) > 0 {
			t.Errorf("%s: %v %v with an error", what, set, gone)
		}
	}
	ok := table(here(0, 0), to(9, 8, 5, 1))
	for what, c := range refused() {
		refuse(what, c.l, ok, c.code)
		refuse(what+", the second one", ok, c.l, c.code)
		for _, l := range oneOfEach() {
			refuse(what+", both", c.l, l, c.code)
		}
	}
}

func wantPatch(t *testing.T, what string, a, set []api.Route, gone []api.Prefix, want []api.Route) {
	t.Helper()
	got, code := rib.Patch(a, set, gone)
	wantCode(t, what, code, api.OK)
	wantTable(t, what, got, want)
}

func refusePatch(t *testing.T, what string, a, set []api.Route, gone []api.Prefix, want api.Errno) {
	t.Helper()
	got, code := rib.Patch(a, set, gone)
	wantCode(t, what, code, want)
	if len(got) > 0 {
		t.Errorf("%s: %v with an error", what, got)
	}
}

// TestPatch: P3.4, what is gone goes, then what is set comes, at its place.
func TestPatch(t *testing.T) {
	a := table(here(0, 0), to(9, 8, 5, 1, 2), to(64, 2, 3, 3))
	wantPatch(t, "nothing", a, nil, nil, a)
	wantPatch(t, "nothing of nothing", nil, nil, nil, nil)
	wantPatch(t, "set in nothing", nil, a, nil, a)
	wantPatch(t, "the first one goes", a, nil, prefixes(0, 0), a[1:])
	wantPatch(t, "the last one goes", a, nil, prefixes(64, 2), a[:2])
	wantPatch(t, "one in the middle goes", a, nil, prefixes(9, 8), table(a[0], a[2]))
	wantPatch(t, "all go, in any order", a, nil, prefixes(64, 2, 0, 0, 9, 8), nil)
	wantPatch(t, "one goes twice", a, nil, prefixes(9, 8, 9, 8), table(a[0], a[2]))
	wantPatch(t, "what is not there goes", a, nil, prefixes(8, 8, 0, 1, 255, 8), a)
	wantPatch(t, "what may not be told goes", a, nil, prefixes(-1, 0, 64, 1, 0, 9, 0, -1, 1<<62, 8), a)
	wantPatch(t, "one instead", a, table(here(9, 8)), nil, table(a[0], here(9, 8), a[2]))
	wantPatch(t, "the first one instead", a, table(to(0, 0, 1, 1)), nil, table(to(0, 0, 1, 1), a[1], a[2]))
	wantPatch(t, "the last one instead", a, table(here(64, 2)), nil, table(a[0], a[1], here(64, 2)))
	wantPatch(t, "ahead of all", a[1:], table(here(0, 0)), nil, a)
	wantPatch(t, "behind all", a, table(here(64, 3)), nil, append(slices.Clone(a), here(64, 3)))
	wantPatch(t, "in between", a, table(here(9, 8), here(8, 8), here(10, 8)), nil, table(a[0], here(8, 8), here(9, 8), here(10, 8), a[2]))
	wantPatch(t, "in any order", nil, table(a[2], a[0], a[1]), nil, a)
	wantPatch(t, "gone, and set", a, table(here(9, 8)), prefixes(9, 8), table(a[0], here(9, 8), a[2]))
	wantPatch(t, "set twice: the later one", a, table(here(8, 8), to(8, 8, 2, 1), here(9, 8), to(9, 8, 1, 1)), nil, table(a[0], to(8, 8, 2, 1), to(9, 8, 1, 1), a[2]))
}

// TestPatchOfWhatMayNotBe: P3.4, what comes of it is asked, not each step.
func TestPatchOfWhatMayNotBe(t *testing.T) {
	a := table(here(0, 0), to(9, 8, 5, 1, 2))
	for what, c := range refused() {
		refusePatch(t, what, c.l, a, prefixes(9, 8), c.code)
		refusePatch(t, what+", and all is to go", c.l, table(api.Route{}), allPrefixes(), c.code)
		if c.code == api.ErrForm {
			refusePatch(t, what+", set", nil, c.l, nil, api.ErrForm)
			refusePatch(t, what+", set there", a, c.l, prefixes(0, 0), api.ErrForm)
		}
		if c.code == api.ErrSize {
			for code, l := range oneOfEach() {
				refusePatch(t, what+", set", l, c.l, nil, code)
			}
		}
	}
	refusePatch(t, "gone ahead of set", a, table(to(9, 8, 1)), prefixes(9, 8), api.ErrForm)
	wantPatch(t, "one that may not be, and one instead", a, table(to(9, 8, -1, 1), api.Route{}, here(9, 8), to(0, 0, 4, 4)), nil, table(to(0, 0, 4, 4), here(9, 8)))
	refusePatch(t, "one that may be, and one instead that may not", a, table(here(9, 8), to(9, 8, -1, 1)), nil, api.ErrForm)
	refusePatch(t, "a prefix that may not be told, set and gone", a, table(here(64, 1)), prefixes(64, 1), api.ErrForm)
}

// TestPatchOfMany: P3.4, as many as may be, and one more.
func TestPatchOfMany(t *testing.T) {
	full, all := many(api.MaxRoutes), allPrefixes()
	next := here(all[api.MaxRoutes].Addr, all[api.MaxRoutes].Bits)
	wantPatch(t, "full", full, nil, nil, full)
	wantPatch(t, "full, of nothing", nil, full, nil, full)
	wantPatch(t, "the last one that may be", full[:199], full[199:], nil, full)
	wantPatch(t, "instead of what is in a full one", full, full[7:9], nil, full)
	wantPatch(t, "one goes, one comes", full, table(next), all[:1], append(slices.Clone(full[1:]), next))
	wantPatch(t, "all go, all come", full, full, all, full)
	refusePatch(t, "one more", full, table(next), nil, api.ErrSize)
	refusePatch(t, "one more, and one that may not be", full, table(next, api.Route{}), nil, api.ErrSize)
	refusePatch(t, "one that may not be, and one more", full, table(api.Route{}, next), nil, api.ErrSize)
	refusePatch(t, "one more that may not be", full, table(here(-1, 0)), nil, api.ErrSize)
	refusePatch(t, "one less, and one that may not be", full, table(here(-1, 0)), all[:1], api.ErrForm)
	refusePatch(t, "one more of nothing", nil, append(slices.Clone(full), next), nil, api.ErrSize)

	var set []api.Route
	var gone []api.Prefix
	for i := range 1 << 18 {
		set = append(set, full[i%len(full)])
		gone = append(gone, full[i%len(full)].Prefix)
	}
	wantPatch(t, "the same again and again", full, set, gone, full)
	for i := range set {
		set[i].Prefix.Addr = -i // each one would come ahead of all others
	}
	refusePatch(t, "very many", full, set, gone, api.ErrSize)
}

// patched: as a test thinks of it: all at once, and then in order.
func patched(a, set []api.Route, gone []api.Prefix) ([]api.Route, api.Errno) {
	by := map[api.Prefix]api.Route{}
	for _, r := range a {
		by[r.Prefix] = r
	}
	for _, p := range gone {
		delete(by, p)
	}
	for _, r := range set {
		by[r.Prefix] = r
	}
	var l []api.Route
	for _, r := range by {
		l = append(l, r)
	}
	slices.SortFunc(l, func(a, b api.Route) int { return graph.ComparePrefixes(a.Prefix, b.Prefix) })
	if code := rib.Check(l); code != api.OK {
		return nil, code
	}
	return l, api.OK
}

// TestDiffAndPatchDrawn: P3.4, what Diff tells, patched in, makes what is wanted; less does not.
func TestDiffAndPatchDrawn(t *testing.T) {
	d := die(57)
	for i := range 400 {
		a, b := drawn(&d, 1+d.N(9)), drawn(&d, 1+d.N(9))
		set, gone, code := rib.Diff(a, b)
		wantCode(t, "Diff", code, api.OK)
		wantPatch(t, fmt.Sprint("pair ", i), a, set, gone, b)
		for j := range set {
			if got, _ := rib.Patch(a, slices.Delete(slices.Clone(set), j, j+1), gone); sameTable(got, b) {
				t.Errorf("pair %d: %v need not be set", i, set[j])
			}
		}
		for j := range gone {
			if got, _ := rib.Patch(a, set, slices.Delete(slices.Clone(gone), j, j+1)); sameTable(got, b) {
				t.Errorf("pair %d: %v need not go", i, gone[j])
			}
		}
		if rib.Check(set) != api.OK || !slices.IsSortedFunc(gone, graph.ComparePrefixes) {
			t.Errorf("pair %d: not in order: %v %v", i, set, gone)
		}
	}
}

// TestPatchDrawn: P3.4, any routes and prefixes, in any order.
func TestPatchDrawn(t *testing.T) {
	d := die(59)
	all := append(allPrefixes()[:40], prefixes(-1, 0, 1, 1, 0, 9)...)
	for i := range 2000 {
		a := drawn(&d, 1+d.N(9))
		var set []api.Route
		var gone []api.Prefix
		for range d.N(30) {
			p := all[d.N(40+d.N(20)/19*3)]
			r := routeOf(d.N(4), p)
			if d.N(60) == 0 {
				r.Cost = -1
			}
			set = append(set, r)
		}
		for range d.N(30) {
			gone = append(gone, all[d.N(len(all))])
		}
		want, wanted := patched(a, set, gone)
		got, code := rib.Patch(a, set, gone)
		wantCode(t, fmt.Sprint("patch ", i), code, wanted)
		wantTable(t, fmt.Sprint("patch ", i), got, want)
	}
}
