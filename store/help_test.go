package store_test

import (
	"encoding/binary"
	"fmt"
	"hash/adler32"
	"slices"
	"strings"
	"testing"

	"tollbar/api"
	"tollbar/probe"
)

type die = probe.Die

func entry(key string, version, origin int, value string) api.Entry {
	return api.Entry{Key: key, Version: version, Origin: origin, Value: value}
}

// many: so many entries that may stand in a store, their keys in order.
func many(n int) []api.Entry {
	var l []api.Entry
	for i := range n {
		l = append(l, entry(fmt.Sprintf("k%03d", i), 5, i%api.MaxNodes, "v"))
	}
	return l
}

// drawn: a store of few keys, so that two of them share some.
func drawn(d *die) []api.Entry {
	var l []api.Entry
	for _, k := range []string{"0", ":", "a:1", "a:11", "b", "zzzzzzzz"} {
		if d.N(2) == 0 {
			l = append(l, entry(k, 1+d.N(3), d.N(3), []string{"", "v", "w", "\xff"}[d.N(4)]))
		}
	}
	return l
}

func wantStore(t *testing.T, what string, got, want []api.Entry) {
	t.Helper()
	if !slices.Equal(got, want) {
		t.Errorf("%s: %v, want %v", what, got, want)
	}
}

func wantCode(t *testing.T, what string, got, want api.Errno) {
	t.Helper()
	if got != want {
		t.Errorf("%s: code %d, want %d", what, got, want)
	}
}

// sealed: bytes and their seal, by the library's own sum.
func sealed(body ...byte) []byte {
	return binary.BigEndian.AppendUint32(slices.Clone(body), adler32.Checksum(body))
}

// body: what Encode should tell ahead of the seal, of any entries, refused ones too.
func body(l []api.Entry) []byte {
	b := []byte{'t', byte(len(l))}
	for _, e := range l {
		b = append(append(b, byte(len(e.Key))), e.Key...)
		b = binary.AppendUvarint(b, uint64(e.Version))
		b = append(b, byte(e.Origin), byte(len(e.Value)))
		b = append(b, e.Value...)
	}
	return b
}

// refused: a store of each kind that Check refuses, and with which code.
func refused() map[string]struct {
	l    []api.Entry
	code api.Errno
} {
	type row = struct {
		l    []api.Entry
		code api.Errno
	}
	ok := entry("a", 1, 0, "")
	return map[string]row{
		"too many":                  {many(api.MaxEntries + 1), api.ErrSize},
		"too many, not in form":     {make([]api.Entry, api.MaxEntries+1), api.ErrSize},
		"no key":                    {[]api.Entry{entry("", 1, 0, "")}, api.ErrForm},
		"key of capitals":           {[]api.Entry{ok, entry("B", 1, 0, "")}, api.ErrForm},
		"key too long":              {[]api.Entry{entry("abcdefghi", 1, 0, "")}, api.ErrForm},
		"version 0":                 {[]api.Entry{entry("a", 0, 0, "")}, api.ErrForm},
		"version below 0":           {[]api.Entry{entry("a", -1, 0, "")}, api.ErrForm},
		"version too great":         {[]api.Entry{entry("a", api.MaxVersion+1, 0, "")}, api.ErrForm},
		"origin below 0":            {[]api.Entry{entry("a", 1, -1, "")}, api.ErrForm},
		"origin too great":          {[]api.Entry{entry("a", 1, api.MaxNodes, "")}, api.ErrForm},
		"value too long":            {[]api.Entry{entry("a", 1, 0, strings.Repeat("x", api.MaxValue+1))}, api.ErrForm},
		"same key twice":            {[]api.Entry{ok, entry("a", 2, 0, "")}, api.ErrOrder},
		"keys fall":                 {[]api.Entry{entry("b", 1, 0, ""), ok}, api.ErrOrder},
		"keys fall at the end":      {[]api.Entry{ok, entry("c", 1, 0, ""), entry("b", 1, 0, "")}, api.ErrOrder},
		"order ahead of form":       {[]api.Entry{entry("b", 1, 0, ""), ok, entry("c", 0, 0, "")}, api.ErrOrder},
		"form ahead of order":       {[]api.Entry{entry("b", 0, 0, ""), ok}, api.ErrForm},
		"form and order of one":     {[]api.Entry{entry("b", 1, 0, ""), entry("a", 0, 0, "")}, api.ErrForm},
		"a longer key ahead of its": {[]api.Entry{entry("aa", 1, 0, ""), ok}, api.ErrOrder},
	}
}
