package store_test

import (
	"cmp"
	"fmt"
	"slices"
	"strings"
	"testing"

	"tollbar/api"
	"tollbar/store"
)

// TestKeyBytes: P1.1, each byte there is, alone and among others.
func TestKeyBytes(t *testing.T) {
	for c := range 256 {
		want := strings.IndexByte("abcdefghijklmnopqrstuvwxyz0123456789:", byte(c)) >= 0
		one := string([]byte{byte(c)})
		for _, s := range []string{one, "a" + one, one + "z", "a:" + one + "9"} {
			if store.Key(s) != want {
				t.Errorf("Key(%q): %v, want %v", s, !want, want)
			}
		}
	}
}

// TestKeyLengths: P1.1, none, the most, and one more.
func TestKeyLengths(t *testing.T) {
	for n := range 3 * api.MaxKey {
		want := 1 <= n && n <= api.MaxKey
		if store.Key(strings.Repeat("k", n)) != want {
			t.Errorf("Key of %d bytes: %v, want %v", n, !want, want)
		}
	}
	for _, s := range []string{"é", "éééé", "a b", "a\x00", "Ａ", strings.Repeat("a", 1<<16)} {
		if store.Key(s) {
			t.Errorf("Key(%.10q): true", s)
		}
	}
}

// TestCheckMayBe: P1.2, stores that may be, at the limits too.
func TestCheckMayBe(t *testing.T) {
	for what, l := range map[string][]api.Entry{
		"nil":    nil,
		"empty":  {},
		"full":   many(api.MaxEntries),
		"least":  {entry("0", 1, 0, "")},
		"most":   {entry("zzzzzzzz", api.MaxVersion, api.MaxNodes-1, strings.Repeat("\xff", api.MaxValue))},
		"longer": {entry("a", 1, 0, ""), entry("aa", 1, 0, ""), entry("ab", 1, 0, ""), entry("b", 1, 0, "")},
		"bytes":  {entry("0", 1, 0, ""), entry("9", 1, 0, ""), entry(":", 1, 0, ""), entry("a", 1, 0, "")},
	} {
		wantCode(t, what, store.Check(l), api.OK)
	}
}

// TestCheckRefuses: P1.2, each thing that is refused, and which comes first.
func TestCheckRefuses(t *testing.T) {
	for what, c := range refused() {
		wantCode(t, what, store.Check(c.l), c.code)
	}
}

// TestCompare: P1.3, entries from the smallest one to the greatest one.
func TestCompare(t *testing.T) {
	rising := []api.Entry{
		entry("z", -1<<63, 1<<62, "z"),
		entry("y", -1, 9, "z"),
		entry("x", 1, -5, "z"),
		entry("w", 1, 5, ""),
		entry("v", 1, 5, "A"),
		entry("u", 1, 5, "AA"),
		entry("t", 1, 5, "B"),
		entry("s", 1, 5, "a"),
		entry("r", 1, 5, "\x80"),
		entry("q", 1, 6, ""),
		entry("p", 2, 0, ""),
		entry("o", 1<<63-1, 0, ""),
	}
	for i, a := range rising {
		for j, b := range rising {
			if got := store.Compare(a, b); got != cmp.Compare(i, j) {
				t.Errorf("Compare(%v, %v): %d, want %d", a, b, got, cmp.Compare(i, j))
			}
		}
	}
	if got := store.Compare(entry("a", 1, 2, "v"), entry("b", 1, 2, "v")); got != 0 {
		t.Errorf("Compare of entries that differ by their keys: %d, want 0", got)
	}
}

// TestGet: P1.3, each key of a full store, and keys that are not there.
func TestGet(t *testing.T) {
	l := many(api.MaxEntries)
	for n := range len(l) + 1 {
		for i, want := range l {
			e, code := store.Get(l[:n], want.Key)
			if i >= n {
				want = api.Entry{}
			}
			if e != want || (code == api.OK) != (i < n) {
				t.Errorf("Get(%d entries, %q): %v %d", n, l[i].Key, e, code)
			}
		}
	}
	for _, k := range []string{"", "a", "k", "k0000", "k0005", "zz", "K000", "k000\x00", strings.Repeat("k", 1000)} {
		e, code := store.Get(l, k)
		wantCode(t, fmt.Sprintf("Get(%.10q)", k), code, api.ErrNone)
		if e != (api.Entry{}) {
			t.Errorf("Get(%.10q): %v", k, e)
		}
	}
}

// TestGetRefuses: P1.3, what Check refuses comes ahead of all else.
func TestGetRefuses(t *testing.T) {
	for what, c := range refused() {
		for _, k := range []string{"a", "k000", "none", "NONE"} {
			e, code := store.Get(c.l, k)
			wantCode(t, what, code, c.code)
			if e != (api.Entry{}) {
				t.Errorf("%s: Get(%q): %v with an error", what, k, e)
			}
		}
	}
}

// TestMergePicks: P1.4, the greater entry of a key comes, and only it.
func TestMergePicks(t *testing.T) {
	old := entry("k", 2, 5, "m")
	for _, c := range []struct {
		e    api.Entry
		came bool
	}{
		{old, false},
		{entry("k", 3, 0, ""), true},
		{entry("k", 1, 9, "z"), false},
		{entry("k", 2, 6, ""), true},
		{entry("k", 2, 4, "z"), false},
		{entry("k", 2, 5, "n"), true},
		{entry("k", 2, 5, "ma"), true},
		{entry("k", 2, 5, "l"), false},
		{entry("k", 2, 5, ""), false},
	} {
		l, keys, code := store.Merge([]api.Entry{old}, []api.Entry{c.e})
		want, wantKeys := []api.Entry{old}, []string(nil)
		if c.came {
			want, wantKeys = []api.Entry{c.e}, []string{"k"}
		}
		wantCode(t, fmt.Sprint(c.e), code, api.OK)
		wantStore(t, fmt.Sprint(c.e), l, want)
		if !slices.Equal(keys, wantKeys) {
			t.Errorf("%v: keys %q, want %q", c.e, keys, wantKeys)
		}
	}
}

// TestMergeDrawn: P1.4, held against a plainer way to say it.
func TestMergeDrawn(t *testing.T) {
	d := die(7)
	for range 500 {
		a, b := drawn(&d), drawn(&d)
		l, keys, code := store.Merge(a, b)
		what := fmt.Sprintf("Merge(%v, %v)", a, b)
		want, wantKeys := plainMerge(a, b)
		wantCode(t, what, code, api.OK)
		wantStore(t, what, l, want)
		if !slices.Equal(keys, wantKeys) {
			t.Errorf("%s: keys %q, want %q", what, keys, wantKeys)
		}
		back, _, _ := store.Merge(b, a)
		wantStore(t, what+" the other way round", back, want)
		again, keys, _ := store.Merge(l, b)
		wantStore(t, what+" once more", again, want)
		if len(keys) > 0 {
			t.Errorf("%s once more: keys %q", what, keys)
		}
	}
}

// plainMerge of stores with room: all by key, then sorted.
func plainMerge(a, b []api.Entry) ([]api.Entry, []string) {
	at := map[string]api.Entry{}
	for _, e := range a {
		at[e.Key] = e
	}
	var keys []string
	for _, e := range b {
		if o, ok := at[e.Key]; !ok || store.Compare(e, o) > 0 {
			at[e.Key] = e
			keys = append(keys, e.Key)
		}
	}
	var l []api.Entry
	for _, e := range at {
		l = append(l, e)
	}
	slices.SortFunc(l, func(x, y api.Entry) int { return strings.Compare(x.Key, y.Key) })
	return l, keys
}

// TestMergeFull: P1.4, new keys come while there is room, by their order;
// greater entries of keys that are there come all the same.
func TestMergeFull(t *testing.T) {
	full := many(api.MaxEntries)
	newer := entry(full[59].Key, 6, 0, "new")
	older := entry(full[3].Key, 4, 0, "old")
	l, keys, code := store.Merge(full, []api.Entry{entry("a", 9, 0, ""), older, newer, entry("z", 9, 0, "")})
	wantCode(t, "full", code, api.OK)
	wantStore(t, "full", l, append(slices.Clone(full[:59]), newer))
	if !slices.Equal(keys, []string{newer.Key}) {
		t.Errorf("full: keys %q", keys)
	}

	few := full[:58]
	more := []api.Entry{entry("a", 1, 0, ""), entry("b", 1, 0, ""), entry("c", 1, 0, ""), entry(few[7].Key, 6, 0, "new")}
	l, keys, code = store.Merge(few, more)
	want := slices.Concat(more[:2], few)
	want[9] = more[3]
	wantCode(t, "almost full", code, api.OK)
	wantStore(t, "almost full", l, want)
	if !slices.Equal(keys, []string{"a", "b", more[3].Key}) {
		t.Errorf("almost full: keys %q", keys)
	}
}

// TestMergeRefuses: P1.4, the first store is checked ahead of the second one.
func TestMergeRefuses(t *testing.T) {
	refuse := func(what string, a, b []api.Entry, want api.Errno) {
		l, keys, code := store.Merge(a, b)
		wantCode(t, what, code, want)
		if len(l) > 0 || len(keys) > 0 {
			t.Errorf("%s: %v %q with an error", what, l, keys)
		}
	}
	for what, c := range refused() {
		refuse(what+", first", c.l, many(2), c.code)
		refuse(what+", second", many(2), c.l, c.code)
		for other, o := range refused() {
			refuse(what+", then "+other, c.l, o.l, c.code)
		}
	}
}

// TestPut: P1.5, new keys at each place, and keys that are there.
func TestPut(t *testing.T) {
	l := []api.Entry{entry("b", 1, 0, "x"), entry("d", 7, 11, "y")}
	b, d := l[0], l[1]
	for _, c := range []struct {
		node int
		key  string
		want []api.Entry
	}{
		{3, "a", []api.Entry{entry("a", 1, 3, "v"), b, d}},
		{0, "c", []api.Entry{b, entry("c", 1, 0, "v"), d}},
		{11, "e", []api.Entry{b, d, entry("e", 1, 11, "v")}},
		{0, "b", []api.Entry{entry("b", 2, 0, "v"), d}},
		{5, "d", []api.Entry{b, entry("d", 8, 5, "v")}},
	} {
		got, code := store.Put(l, c.node, c.key, "v")
		wantCode(t, "Put at "+c.key, code, api.OK)
		wantStore(t, "Put at "+c.key, got, c.want)
	}
	got, code := store.Put(l, 0, "b", "x")
	wantCode(t, "Put of the same", code, api.OK)
	wantStore(t, "Put of the same", got, []api.Entry{entry("b", 2, 0, "x"), d})
	got, code = store.Put(nil, 2, "k", "")
	wantCode(t, "Put in an empty store", code, api.OK)
	wantStore(t, "Put in an empty store", got, []api.Entry{entry("k", 1, 2, "")})
}

// TestPutEdges: P1.5, the limits, one beyond them, and which error comes first.
func TestPutEdges(t *testing.T) {
	long, longer := strings.Repeat("x", api.MaxValue), strings.Repeat("x", api.MaxValue+1)
	full := many(api.MaxEntries)
	last := []api.Entry{entry("k", api.MaxVersion, 0, "v")}
	near := []api.Entry{entry("k", api.MaxVersion-1, 0, "v")}
	for _, c := range []struct {
		what  string
		l     []api.Entry
		node  int
		key   string
		value string
		want  api.Errno
	}{
		{"the longest value", nil, 0, "k", long, api.OK},
		{"the last node", nil, api.MaxNodes - 1, "k", "", api.OK},
		{"the longest key", nil, 0, "kkkkkkkk", "", api.OK},
		{"the last room", full[1:], 0, "a", "", api.OK},
		{"a key of a full store", full, 0, full[30].Key, "", api.OK},
		{"the last version", near, 0, "k", "", api.OK},
		{"a key beside the last version", last, 0, "l", "", api.OK},
		{"node below 0", last, -1, "K", longer, api.ErrRange},
		{"node too great", last, api.MaxNodes, "K", longer, api.ErrRange},
		{"node far too great", last, 1<<63 - 1, "k", "", api.ErrRange},
		{"no key", full, 0, "", longer, api.ErrForm},
		{"key too long", full, 0, "kkkkkkkkk", longer, api.ErrForm},
		{"key of capitals", last, 0, "K", longer, api.ErrForm},
		{"value too long", last, 0, "k", longer, api.ErrSize},
		{"new key of a full store", full, 0, "a", "", api.ErrSize},
		{"version too great", last, 0, "k", "", api.ErrRange},
	} {
		l, code := store.Put(c.l, c.node, c.key, c.value)
		wantCode(t, c.what, code, c.want)
		if code != api.OK {
			wantStore(t, c.what, l, nil)
		} else if e, got := store.Get(l, c.key); got != api.OK || e.Origin != c.node || e.Value != c.value {
			t.Errorf("%s: %v %d", c.what, e, got)
		}
	}
	l, _ := store.Put(near, 0, "k", "w")
	wantStore(t, "the last version", l, []api.Entry{entry("k", api.MaxVersion, 0, "w")})
}

// TestPutRefuses: P1.5, what Check refuses comes ahead of all else.
func TestPutRefuses(t *testing.T) {
	for what, c := range refused() {
		for _, node := range []int{0, -1} {
			l, code := store.Put(c.l, node, "K", strings.Repeat("x", api.MaxValue+1))
			wantCode(t, what, code, c.code)
			wantStore(t, what, l, nil)
		}
	}
}

// TestIsNode: P1.2, from 0 to below MaxNodes.
func TestIsNode(t *testing.T) {
	for n := -3; n < 3*api.MaxNodes; n++ {
		if want := 0 <= n && n < 12; store.IsNode(n) != want {
			t.Errorf("IsNode(%d): %v", n, !want)
		}
	}
	if store.IsNode(-1<<63) || store.IsNode(1<<63-1) || store.IsNode(1<<32) {
		t.Error("a number far out is a node")
	}
}
