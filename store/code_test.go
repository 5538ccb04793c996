package store_test

import (
	"bytes"
	"fmt"
	"slices"
	"strings"
	"testing"

	"tollbar/api"
	"tollbar/store"
)

// TestEncodeBytes: P1.6, told byte by byte.
func TestEncodeBytes(t *testing.T) {
	for _, c := range []struct {
		l    []api.Entry
		want []byte
	}{
		{nil, []byte{'t', 0, 0, 234, 0, 117}},
		{[]api.Entry{entry("x", 1, 2, "a")}, []byte{'t', 1, 1, 'x', 1, 2, 1, 'a', 6, 122, 1, 84}},
		{[]api.Entry{entry("k:", 300, 11, "")}, sealed('t', 1, 2, 'k', ':', 172, 2, 11, 0)},
		{[]api.Entry{entry("a", 127, 0, "\xff"), entry("b", 128, 1, "\x00")}, sealed('t', 2, 1, 'a', 127, 0, 1, 255, 1, 'b', 128, 1, 1, 1, 0)},
		{[]api.Entry{entry("a", 16383, 0, "")}, sealed('t', 1, 1, 'a', 255, 127, 0, 0)},
		{[]api.Entry{entry("a", 16384, 0, "")}, sealed('t', 1, 1, 'a', 128, 128, 1, 0, 0)},
		{[]api.Entry{entry("a", api.MaxVersion-1, 0, "")}, sealed('t', 1, 1, 'a', 255, 255, 255, 255, 255, 31, 0, 0)},
		{[]api.Entry{entry("a", api.MaxVersion, 0, "")}, sealed('t', 1, 1, 'a', 128, 128, 128, 128, 128, 32, 0, 0)},
	} {
		got, code := store.Encode(c.l)
		wantCode(t, fmt.Sprint(c.l), code, api.OK)
		if !bytes.Equal(got, c.want) {
			t.Errorf("Encode(%v): %v, want %v", c.l, got, c.want)
		}
	}
}

// greatest: the store that takes the most bytes, of great ones, so that both sums of the seal go round.
func greatest() []api.Entry {
	l := many(api.MaxEntries)
	for i := range l {
		l[i] = entry(fmt.Sprintf("zzzz%04d", i), api.MaxVersion, api.MaxNodes-1, strings.Repeat("\xff", api.MaxValue))
	}
	return l
}

// TestThereAndBack: P1.6 and P1.7, what is encoded is decoded.
func TestThereAndBack(t *testing.T) {
	stores := [][]api.Entry{nil, many(1), many(api.MaxEntries), greatest()}
	d := die(3)
	for range 300 {
		stores = append(stores, drawn(&d))
	}
	for shift := range 41 {
		for _, v := range []int{1 << shift, 1<<shift - 1} {
			if v > 0 {
				stores = append(stores, []api.Entry{entry("k", v, 0, "")})
			}
		}
	}
	for _, l := range stores {
		b, code := store.Encode(l)
		what := fmt.Sprintf("%.200v", l)
		wantCode(t, "Encode "+what, code, api.OK)
		if want := sealed(body(l)...); !bytes.Equal(b, want) {
			t.Fatalf("Encode %s: %.200v, want %.200v", what, b, want)
		}
		back, code := store.Decode(b)
		wantCode(t, "Decode "+what, code, api.OK)
		wantStore(t, "Decode "+what, back, l)
	}
}

// TestEncodeRefuses: P1.6, what Check refuses.
func TestEncodeRefuses(t *testing.T) {
	for what, c := range refused() {
		b, code := store.Encode(c.l)
		wantCode(t, what, code, c.code)
		if len(b) > 0 {
			t.Errorf("%s: %v with an error", what, b)
		}
	}
}

func wantRefused(t *testing.T, what string, b []byte, want api.Errno) {
	t.Helper()
	l, code := store.Decode(b)
	wantCode(t, what, code, want)
	if len(l) > 0 {
		t.Errorf("%s: %.200v with an error", what, l)
	}
}

// TestDecodeFrame: P1.7, what is refused ahead of the entries, and which comes first.
func TestDecodeFrame(t *testing.T) {
	marked := append([]byte{'t'}, make([]byte, api.MaxBytes)...)
	wantRefused(t, "one byte too many, not marked", make([]byte, api.MaxBytes+1), api.ErrSize)
	wantRefused(t, "one byte too many", marked, api.ErrSize)
	wantRefused(t, "one byte too many, sealed", sealed(marked[:api.MaxBytes-3]...), api.ErrSize)
	wantRefused(t, "the most bytes, not marked", make([]byte, api.MaxBytes), api.ErrForm)
	wantRefused(t, "the most bytes, not sealed", marked[:api.MaxBytes], api.ErrSum)
	for n := range 6 {
		wantRefused(t, fmt.Sprint(n, " bytes, marked"), marked[:n], api.ErrShort)
		wantRefused(t, fmt.Sprint(n, " bytes, not marked"), marked[1:n+1], api.ErrShort)
	}
	wantRefused(t, "the mark and its seal", sealed('t'), api.ErrShort)
	wantRefused(t, "another mark", sealed('u', 0), api.ErrForm)
	wantRefused(t, "a capital mark", sealed('T', 0), api.ErrForm)
	wantRefused(t, "another mark, not sealed", []byte{'u', 0, 0, 0, 0, 0}, api.ErrForm)
	wantRefused(t, "not sealed", []byte{'t', 0, 0, 0, 0, 0}, api.ErrSum)
	wantRefused(t, "not sealed, too early an end", []byte{'t', 1, 0, 0, 0, 0}, api.ErrSum)
	if l, code := store.Decode(sealed('t', 0)); len(l) > 0 || code != api.OK {
		t.Errorf("Decode of an empty store: %v %d", l, code)
	}
}

// TestDecodeTurned: P1.7, a byte that is turned anywhere is found.
func TestDecodeTurned(t *testing.T) {
	b, _ := store.Encode(many(5))
	for i := range b {
		for _, turn := range []byte{1, 2, 64, 128, 255} {
			bad := slices.Clone(b)
			bad[i] ^= turn
			want := api.ErrSum
			if i == 0 {
				want = api.ErrForm
			}
			wantRefused(t, fmt.Sprint("byte ", i, " turned by ", turn), bad, want)
		}
	}
	n := len(b)
	slices.Reverse(b[n-4:])
	wantRefused(t, "the seal's bytes in another order", b, api.ErrSum)
}

// TestDecodeShort: P1.7, entries that end too early, at each place.
func TestDecodeShort(t *testing.T) {
	whole := body([]api.Entry{entry("a", 1, 2, "v"), entry("bc", 300, 3, ""), entry("d", api.MaxVersion, 4, "www")})
	for n := 2; n < len(whole); n++ {
		wantRefused(t, fmt.Sprint("the first ", n, " bytes"), sealed(whole[:n]...), api.ErrShort)
	}
	wantRefused(t, "255 entries, and none", sealed('t', 255), api.ErrShort)
	wantRefused(t, "a key beyond the end", sealed('t', 1, 255, 'a', 1, 0, 0), api.ErrShort)
	wantRefused(t, "a value beyond the end", sealed('t', 1, 1, 'a', 1, 0, 1), api.ErrShort)
	wantRefused(t, "a seventh byte of a version that is to go on", sealed('t', 1, 1, 'a', 129, 129, 129, 129, 129, 129, 129), api.ErrShort)
	wantRefused(t, "short ahead of what Check refuses", sealed('t', 2, 1, 'A', 0, 99, 0), api.ErrShort)
	wantRefused(t, "a version of seven bytes, and no more", sealed('t', 1, 1, 'a', 129, 129, 129, 129, 129, 129, 1), api.ErrShort)
}

// TestDecodeVersions: P1.7, versions in more bytes than need be. Too many
// entries are refused behind that: it shows which of the two was found.
func TestDecodeVersions(t *testing.T) {
	for _, c := range []struct {
		version []byte
		form    bool
	}{
		{[]byte{0}, false},
		{[]byte{127}, false},
		{[]byte{128, 1}, false},
		{[]byte{128, 128, 1}, false},
		{[]byte{128, 128, 128, 128, 128, 128, 1}, false},
		{[]byte{255, 255, 255, 255, 255, 255, 127}, false},
		{[]byte{128, 0}, true},
		{[]byte{129, 0}, true},
		{[]byte{255, 128, 0}, true},
		{[]byte{129, 129, 129, 129, 129, 129, 0}, true},
		{[]byte{129, 129, 129, 129, 129, 129, 129, 1}, true},
		{[]byte{129, 129, 129, 129, 129, 129, 129, 0}, true},
		{bytes.Repeat([]byte{255}, 300), true},
	} {
		b := body(many(api.MaxEntries))
		b[1]++
		b = append(append(append(b, 2, 'k', '1'), c.version...), 0, 0)
		want := api.ErrSize
		if c.form {
			want = api.ErrForm
		}
		wantRefused(t, fmt.Sprint("version ", c.version), sealed(b...), want)
	}
	wantRefused(t, "a longer version ahead of too early an end", sealed('t', 2, 1, 'a', 129, 0, 0, 0), api.ErrForm)
	wantRefused(t, "a version of eight bytes ahead of too early an end", sealed('t', 1, 1, 'a', 129, 129, 129, 129, 129, 129, 129, 1), api.ErrForm)
}

// TestDecodeLeft: P1.7, bytes that are left, ahead of what Check refuses.
func TestDecodeLeft(t *testing.T) {
	wantRefused(t, "one byte behind nothing", sealed('t', 0, 0), api.ErrForm)
	wantRefused(t, "an entry more than told", sealed('t', 0, 1, 'a', 1, 0, 0), api.ErrForm)
	for what, l := range map[string][]api.Entry{
		"a store":    many(3),
		"too many":   many(api.MaxEntries + 1),
		"keys twice": {entry("a", 1, 0, ""), entry("a", 1, 0, "")},
	} {
		wantRefused(t, "a byte behind "+what, sealed(append(body(l), 0)...), api.ErrForm)
	}
	most := append(body(greatest()), make([]byte, api.MaxBytes)...)[:api.MaxBytes-4]
	wantRefused(t, "the most bytes", sealed(most...), api.ErrForm)
}

// TestDecodeChecks: P1.7, what Check refuses, if bytes can tell it.
func TestDecodeChecks(t *testing.T) {
	for what, c := range refused() {
		told := true
		for _, e := range c.l {
			told = told && e.Version >= 0 && e.Origin >= 0
		}
		if told {
			wantRefused(t, what, sealed(body(c.l)...), c.code)
		}
	}
	far := entry("a", 1, 255, "")
	wantRefused(t, "the greatest origin", sealed(body([]api.Entry{far})...), api.ErrForm)
	long := entry(strings.Repeat("a", 255), 1, 0, strings.Repeat("a", 255))
	wantRefused(t, "the longest texts", sealed(body([]api.Entry{long})...), api.ErrForm)
	wantRefused(t, "the most entries", sealed(body(many(255))...), api.ErrSize)
}

// TestDecodeDrawn: P1.7, whatever the bytes: what is not refused is what Encode tells so.
func TestDecodeDrawn(t *testing.T) {
	d := die(11)
	for range 20000 {
		b := body(drawn(&d))
		for range d.N(4) {
			i := 1 + d.N(len(b)-1)
			switch d.N(3) {
			case 0:
				b[i] = byte(d.N(256))
			case 1:
				b = slices.Delete(b, i, i+1)
			case 2:
				b = slices.Insert(b, i, byte(d.N(256)))
			}
			if len(b) < 2 {
				break
			}
		}
		b = sealed(b...)
		l, code := store.Decode(b)
		if code != api.OK {
			wantStore(t, fmt.Sprint(b), l, nil)
			continue
		}
		back, code := store.Encode(l)
		if code != api.OK || !bytes.Equal(back, b) {
			t.Fatalf("Decode(%v): %v, of which Encode tells %v %d", b, l, back, code)
		}
	}
}
