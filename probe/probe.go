// Package probe: what the tests of the layers share. The program does not use it.
package probe

import "slices"

// Die draws numbers that look like chance, but are the same in every run.
type Die uint64

// N draws a number from 0 to below most, which must be above 0.
func (d *Die) N(most int) int {
	*d = *d*6364136223846793005 + 1442695040888963407
	return int(uint64(*d>>33) % uint64(most))
}

// Roomy: the same list, with spare room that is not empty, so that it shows
// whether somebody writes there.
func Roomy[T any](l []T, spare T) []T {
	out := slices.Clone(l)
	for range 5 {
		out = append(out, spare)
	}
	return out[:len(l)]
}

// Spoil overwrites a list, its spare room too, so that it shows who shares it.
func Spoil[T any](l []T, with T) {
	l = l[:cap(l)]
	for i := range l {
		l[i] = with
	}
}
