package store_test

import (
	"fmt"
	"reflect"
	"slices"
	"strings"
	"testing"

	"tollbar/api"
	"tollbar/probe"
	"tollbar/store"
)

var spare = api.Entry{Key: "spare", Version: -7, Origin: -7, Value: "spare"}

// call: one call of the package, of lists that are handed in; its answer as lists and all else.
type call struct {
	name string
	in   [][]api.Entry
	run  func(in [][]api.Entry) (l []api.Entry, keys []string, b []byte, rest string)
}

// calls: of each function that takes a list, some that are refused and some that are not.
func calls() []call {
	var out []call
	add := func(name string, in [][]api.Entry, run func([][]api.Entry) ([]api.Entry, []string, []byte, string)) {
		out = append(out, call{name, in, run})
	}
	stores := [][]api.Entry{nil, {}, many(1), many(5), many(api.MaxEntries - 1), many(api.MaxEntries)}
	for _, c := range refused() {
		stores = append(stores, c.l)
	}
	newer := entry("k000", 9, 0, "new")
	for i, l := range stores {
		for j, m := range append(stores, []api.Entry{newer}, []api.Entry{newer, entry("z", 1, 0, "")}) {
			add(fmt.Sprint("Merge ", i, " ", j), [][]api.Entry{l, m}, func(in [][]api.Entry) ([]api.Entry, []string, []byte, string) {
				l, keys, code := store.Merge(in[0], in[1])
				return l, keys, nil, fmt.Sprint(int(code))
			})
		}
		for _, key := range []string{"", "K", "a", "k000", "k004", "z"} {
			add(fmt.Sprint("Put ", i, " ", key), [][]api.Entry{l}, func(in [][]api.Entry) ([]api.Entry, []string, []byte, string) {
				l, code := store.Put(in[0], 3, key, "new")
				return l, nil, nil, fmt.Sprint(int(code))
			})
			add(fmt.Sprint("Get ", i, " ", key), [][]api.Entry{l}, func(in [][]api.Entry) ([]api.Entry, []string, []byte, string) {
				e, code := store.Get(in[0], key)
				return nil, nil, nil, fmt.Sprint(e, int(code))
			})
		}
		add(fmt.Sprint("Encode ", i), [][]api.Entry{l}, func(in [][]api.Entry) ([]api.Entry, []string, []byte, string) {
			b, code := store.Encode(in[0])
			return nil, nil, b, fmt.Sprint(int(code))
		})
		add(fmt.Sprint("Check ", i), [][]api.Entry{l}, func(in [][]api.Entry) ([]api.Entry, []string, []byte, string) {
			return nil, nil, nil, fmt.Sprint(int(store.Check(in[0])))
		})
	}
	return out
}

// TestListsStay: what is handed in stays as it was, its spare room too; the
// answer is new memory: spoiling it spoils neither what was handed in nor
// the next answer, and spoiling what was handed in does not spoil it.
func TestListsStay(t *testing.T) {
	for _, c := range calls() {
		var in, was [][]api.Entry
		for _, l := range c.in {
			l = probe.Roomy(l, spare)
			in = append(in, l)
			was = append(was, slices.Clone(l[:cap(l)]))
		}
		stays := func(when string) {
			for i := range in {
				if !slices.Equal(in[i][:cap(in[i])], was[i]) {
					t.Fatalf("%s: list %d is changed %s", c.name, i, when)
				}
			}
		}
		l, keys, b, rest := c.run(in)
		stays("by the call")
		l2, keys2, b2, rest2 := c.run(in)
		text := fmt.Sprint(l, keys, b, rest)
		if fmt.Sprint(l2, keys2, b2, rest2) != text {
			t.Fatalf("%s: another answer the second time", c.name)
		}
		probe.Spoil(l2, spare)
		probe.Spoil(keys2, "spoilt")
		probe.Spoil(b2, 7)
		stays("with the answer")
		for i := range in {
			probe.Spoil(in[i], spare)
		}
		if fmt.Sprint(l, keys, b, rest) != text {
			t.Fatalf("%s: the answer is changed with another one, or with what was handed in", c.name)
		}
	}
}

// TestOneListTwice: both arguments may be one list.
func TestOneListTwice(t *testing.T) {
	l := probe.Roomy(many(10), spare)
	got, keys, code := store.Merge(l, l)
	wantCode(t, "a store and itself", code, api.OK)
	wantStore(t, "a store and itself", got, many(10))
	if len(keys) > 0 {
		t.Errorf("a store and itself: keys %q", keys)
	}
	probe.Spoil(got, spare)
	wantStore(t, "the store itself", l, many(10))
}

// TestBytesStay: the bytes that are decoded stay as they were, and are not kept.
func TestBytesStay(t *testing.T) {
	good := sealed(body(many(9))...)
	for _, b := range [][]byte{good, good[:4], good[:20], sealed('t', 1), sealed(body(refused()["same key twice"].l)...)} {
		b = append(slices.Clone(b), "spare room"...)[:len(b)]
		was := slices.Clone(b[:cap(b)])
		l, code := store.Decode(b)
		if !slices.Equal(b[:cap(b)], was) {
			t.Fatalf("Decode changes %v", was)
		}
		again, _ := store.Decode(b)
		text := fmt.Sprint(l, code)
		probe.Spoil(again, spare)
		if !slices.Equal(b[:cap(b)], was) {
			t.Fatalf("%v is changed with the answer", was)
		}
		probe.Spoil(b, 'x')
		if fmt.Sprint(l, code) != text {
			t.Fatalf("the answer is changed with the bytes, or with another one: %v, it was %s", l, text)
		}
	}
}

// TestWildArguments: no call panics, each ends, and with an error all else is zero.
func TestWildArguments(t *testing.T) {
	numbers := []int{-1 << 63, -1, 0, 1, 11, 12, 60, 1 << 40, 1<<40 + 1, 1<<63 - 1}
	texts := []string{"", "a", "A", ":", "\x00", "\xff\xfe", "é", "zzzzzzzz", strings.Repeat("z", 9), strings.Repeat("v", 120), strings.Repeat("v", 121), strings.Repeat("v", 1<<17)}
	zero := func(what string, code api.Errno, answers ...any) {
		for _, a := range answers {
			v := reflect.ValueOf(a)
			if code != api.OK && !v.IsZero() && !(v.Kind() == reflect.Slice && v.Len() == 0) {
				t.Errorf("%s: %.100v with the error %d", what, a, code)
			}
		}
	}
	d := die(5)
	wild := func() []api.Entry {
		var l []api.Entry
		for range d.N(4) {
			l = append(l, entry(texts[d.N(len(texts))], numbers[d.N(len(numbers))], numbers[d.N(len(numbers))], texts[d.N(len(texts))]))
		}
		return l
	}
	for range 3000 {
		a, b := wild(), wild()
		if d.N(2) == 0 {
			a = drawn(&d)
		}
		for _, s := range texts {
			store.Key(s)
			e, code := store.Get(a, s)
			zero("Get", code, e)
			l, code := store.Put(a, numbers[d.N(len(numbers))], s, texts[d.N(len(texts))])
			zero("Put", code, l)
			l, code = store.Decode([]byte(s))
			zero("Decode", code, l)
		}
		if len(a) > 0 && len(b) > 0 {
			if c := store.Compare(a[0], b[0]); c != -store.Compare(b[0], a[0]) || c < -1 || c > 1 {
				t.Errorf("Compare(%v, %v): %d", a[0], b[0], c)
			}
		}
		l, keys, code := store.Merge(a, b)
		zero("Merge", code, l, keys)
		told, code := store.Encode(b)
		zero("Encode", code, told)
	}
}
