// Package probe: what the tests of the layers share. The program does not use it.
package probe

import (
	"slices"
	"sort"

	"tollbar/api"
)

// Die draws numbers that look like chance, but are the same in every run.
type Die uint64

// N draws a number from 0 to below most, which must be above 0.
func (d *Die) N(most int) int {
	*d = *d*6364136223846793005 + 1442695040888963407
	return int(uint64(*d>>33) % uint64(most))
}

// Roomy: the same list, with spare room that is not empty, so that it shows
// whether somebody writes there.
func Roomy[T any](l []T, spare T) []T {
	out := slices.Clone(l)
	for range 5 {
		out = append(out, spare)
	}
	return out[:len(l)]
}

// Spoil overwrites a list, its spare room too, so that it shows who shares it.
func Spoil[T any](l []T, with T) {
	l = l[:cap(l)]
	for i := range l {
		l[i] = with
	}
}

// Kept: a store of keys and values by turns.
func Kept(told ...string) []api.Entry {
	var l []api.Entry
	for i := 0; i < len(told); i += 2 {
		l = append(l, api.Entry{Key: told[i], Version: 1, Value: told[i+1]})
	}
	sort.Slice(l, func(i, j int) bool { return l[i].Key < l[j].Key })
	return l
}

// RefusedStores: one of each code with which store.Check refuses.
func RefusedStores() map[api.Errno][]api.Entry {
	return map[api.Errno][]api.Entry{
		api.ErrSize:  make([]api.Entry, api.MaxEntries+1),
		api.ErrForm:  {{Key: "a:0", Version: 0, Value: "1=1"}, {Key: "a:1", Version: 1, Value: "0=1"}},
		api.ErrOrder: {{Key: "a:1", Version: 1, Value: "0=1"}, {Key: "a:0", Version: 1, Value: "1=1"}},
	}
}

// Prefixes: of numbers, an address and bits by turns.
func Prefixes(numbers ...int) []api.Prefix {
	var l []api.Prefix
	for i := 0; i < len(numbers); i += 2 {
		l = append(l, api.Prefix{Addr: numbers[i], Bits: numbers[i+1]})
	}
	return l
}
