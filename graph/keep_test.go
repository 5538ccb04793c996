package graph_test

import (
	"fmt"
	"reflect"
	"slices"
	"strings"
	"testing"

	"tollbar/api"
	"tollbar/graph"
	"tollbar/probe"
)

var (
	spareSide   = api.Side{Node: -7, Cost: -7}
	sparePrefix = api.Prefix{Addr: -7, Bits: -7}
	spareEntry  = api.Entry{Key: "spare", Version: -7}
)

// stays: the call leaves a list as it was, its spare room too, and answers the same twice.
func stays[T comparable](t *testing.T, what string, l []T, spare T, run func([]T) string) {
	t.Helper()
	l = probe.Roomy(l, spare)
	was := slices.Clone(l[:cap(l)])
	first := run(l)
	if run(l) != first {
		t.Errorf("%s: another answer the second time", what)
	}
	if !slices.Equal(l[:cap(l)], was) {
		t.Errorf("%s: the list is changed", what)
	}
}

// TestSidesStay: P2.1 and P2.2, sides that are handed in.
func TestSidesStay(t *testing.T) {
	run := func(l []api.Side) string {
		a := api.Adj{Drain: true, Sides: l}
		code := graph.CheckAdj(a)
		s, shown := graph.ShowAdj(a)
		return fmt.Sprint(int(code), s, int(shown))
	}
	for s, a := range adjsThatMayBe() {
		stays(t, s, a.Sides, spareSide, run)
	}
	for what, c := range refusedAdjs() {
		stays(t, what, c.a.Sides, spareSide, run)
	}
}

// TestPrefixesStay: P2.3, prefixes that are handed in.
func TestPrefixesStay(t *testing.T) {
	run := func(l []api.Prefix) string {
		code := graph.CheckPrefixes(l)
		s, shown := graph.ShowPrefixes(l)
		return fmt.Sprint(int(code), s, int(shown))
	}
	for s, l := range prefixesThatMayBe() {
		stays(t, s, l, sparePrefix, run)
	}
	for what, c := range refusedPrefixes() {
		stays(t, what, c.l, sparePrefix, run)
	}
}

// TestReadsAreNew: P2.2 and P2.3, spoiling what is read does not spoil what is read next.
func TestReadsAreNew(t *testing.T) {
	for s, want := range adjsThatMayBe() {
		a, _ := graph.ReadAdj(s)
		b, _ := graph.ReadAdj(s)
		probe.Spoil(a.Sides, spareSide)
		c, _ := graph.ReadAdj(s)
		if !sameAdj(b, want) || !sameAdj(c, want) {
			t.Errorf("ReadAdj(%q) shares memory with another answer", s)
		}
	}
	for s, want := range prefixesThatMayBe() {
		a, _ := graph.ReadPrefixes(s)
		b, _ := graph.ReadPrefixes(s)
		probe.Spoil(a, sparePrefix)
		c, _ := graph.ReadPrefixes(s)
		if !slices.Equal(b, want) || !slices.Equal(c, want) {
			t.Errorf("ReadPrefixes(%q) shares memory with another answer", s)
		}
	}
}

// TestStoresStay: P2.4 and P2.5, a store that is handed in; what is answered is new each time.
func TestStoresStay(t *testing.T) {
	d := die(41)
	stores := [][]api.Entry{nil, {}, kept("p:0", "9/8")}
	for _, l := range refusedStores() {
		stores = append(stores, l)
	}
	for range 50 {
		w := drawnNet(&d, api.MaxNodes, 3)
		stores = append(stores, w.kept())
	}
	for i, l := range stores {
		for from := -1; from <= api.MaxNodes; from++ {
			stays(t, fmt.Sprint("store ", i), l, spareEntry, func(l []api.Entry) string {
				ways, code := graph.Ways(l, from)
				told := graph.ToldPrefixes(l, from)
				text := fmt.Sprint(ways, int(code), told)
				for _, w := range ways {
					probe.Spoil(w.Hops, -7)
				}
				probe.Spoil(ways, api.Way{Cost: -7})
				probe.Spoil(told, sparePrefix)
				return text
			})
		}
	}
}

// TestHopsAreApart: P2.5, no two lists of one answer share memory, spare room neither.
func TestHopsAreApart(t *testing.T) {
	d := die(43)
	for range 50 {
		w := drawnNet(&d, api.MaxNodes, 2)
		l := w.kept()
		want, _ := graph.Ways(l, 0)
		for i := range want {
			got, _ := graph.Ways(l, 0)
			probe.Spoil(got[i].Hops, -7)
			got[i] = want[i]
			if !slices.EqualFunc(got, want, sameWay) {
				t.Fatalf("the hops to %d share memory with others", i)
			}
		}
	}
}

// TestWildArguments: no call panics, each ends, and with an error all else is zero.
func TestWildArguments(t *testing.T) {
	numbers := []int{-1 << 63, -1, 0, 1, 2, 8, 9, 11, 12, 255, 256, 1000, 1001, 100000, 1<<63 - 1}
	texts := []string{"", "!", "1=5", "0=1", "!0=1,2=3", "0/0", "128/1", "\x00", "\xff\xfe", "=", "/", ",", strings.Repeat("1=1,", 1<<16), strings.Repeat("1", 1<<17), strings.Repeat("0/0,", 1<<16) + "0/0", strings.Repeat(",", 1<<17)}
	zero := func(what string, code api.Errno, a any) {
		v := reflect.ValueOf(a)
		if code != api.OK && !v.IsZero() && !(v.Kind() == reflect.Slice && v.Len() == 0) {
			t.Errorf("%s: %.100v with the error %d", what, a, code)
		}
	}
	d := die(47)
	pick := func() int { return numbers[d.N(len(numbers))] }
	for _, s := range texts {
		a, code := graph.ReadAdj(s)
		zero("ReadAdj", code, a)
		l, code := graph.ReadPrefixes(s)
		zero("ReadPrefixes", code, l)
	}
	for range 5000 {
		a := api.Adj{Drain: d.N(2) == 0}
		var l []api.Prefix
		var told []api.Entry
		for range d.N(5) {
			a.Sides = append(a.Sides, api.Side{Node: pick(), Cost: pick()})
			l = append(l, api.Prefix{Addr: pick(), Bits: pick()})
			told = append(told, api.Entry{Key: fmt.Sprint("a:", len(told)), Version: 1 + d.N(50)/49*pick(), Origin: d.N(3), Value: texts[d.N(8)]})
		}
		graph.CheckAdj(a)
		s, code := graph.ShowAdj(a)
		zero("ShowAdj", code, s)
		graph.CheckPrefixes(l)
		s, code = graph.ShowPrefixes(l)
		zero("ShowPrefixes", code, s)
		ways, code := graph.Ways(told, pick())
		zero("Ways", code, ways)
		graph.ToldPrefixes(told, pick())
		graph.AdjKey(pick())
		graph.PrefixesKey(pick())
	}
}
