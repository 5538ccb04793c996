// Package store: entries by their keys, the greatest one of each.
package store

import (
	"cmp"
	"sort"

	"tollbar/api"
)

// Key: may it be one?
func Key(s string) bool {
	if len(s) < 1 || len(s) > api.MaxKey {
		return false
	}
	for i := range len(s) {
		if !isKeyByte(s[i]) {
			return false
		}
	}
	return true
}

func isKeyByte(c byte) bool {
	return 'a' <= c && c <= 'z' || '0' <= c && c <= '9' || c == ':'
}

// IsNode: is there a node of that number? The layers above ask it, too.
func IsNode(n int) bool { return 0 <= n && n < api.MaxNodes }

// Check a store.
func Check(l []api.Entry) api.Errno {
	if len(l) > api.MaxEntries {
		return api.ErrSize
	}
	for i, e := range l {
		if !isEntry(e) {
			return api.ErrForm
		}
		if i > 0 && e.Key <= l[i-1].Key {
			return api.ErrOrder
		}
	}
	return api.OK
}

func isEntry(e api.Entry) bool {
	return Key(e.Key) &&
		1 <= e.Version && e.Version <= api.MaxVersion &&
		IsNode(e.Origin) &&
		len(e.Value) <= api.MaxValue
}

// Compare two entries of a key: below 0, 0, above.
func Compare(a, b api.Entry) int {
	if c := cmp.Compare(a.Version, b.Version); c != 0 {
		return c
	}
	if c := cmp.Compare(a.Origin, b.Origin); c != 0 {
		return c
	}
	return cmp.Compare(a.Value, b.Value)
}

// Get the entry of a key.
func Get(l []api.Entry, key string) (api.Entry, api.Errno) {
	if code := Check(l); code != api.OK {
		return api.Entry{}, code
	}
	i, there := find(l, key)
	if !there {
		return api.Entry{}, api.ErrNone
	}
	return l[i], api.OK
}

// find tells the place of a key, or that at which it would come, so that who
// asks can lay an entry there without looking again. The list must be in order.
func find(l []api.Entry, key string) (int, bool) {
	i := sort.Search(len(l), func(i int) bool { return l[i].Key >= key })
	return i, i < len(l) && l[i].Key == key
}

// Merge two stores: of each key the greater entry; keys whose entry is not that of the first one. A store that is full takes no new keys.
func Merge(a, b []api.Entry) ([]api.Entry, []string, api.Errno) {
	if code := Check(a); code != api.OK {
		return nil, nil, code
	}
	if code := Check(b); code != api.OK {
		return nil, nil, code
	}
	out := append([]api.Entry(nil), a...)
	var keys []string
	for _, e := range b {
		i, there := find(out, e.Key)
		if comes(out, i, there, e) {
			out = lay(out, i, there, e)
			keys = append(keys, e.Key)
		}
	}
	return out, keys, api.OK
}

// comes holds an entry against what stands at its place, if its key is there,
// and against the room that is left, if not: a full store still gets newer entries.
func comes(l []api.Entry, i int, there bool, e api.Entry) bool {
	if there {
		return Compare(e, l[i]) > 0
	}
	return len(l) < api.MaxEntries
}

// lay puts an entry at its place, or instead of what stands there, in a list
// of its own: the one that it is given may be somebody else's.
func lay(l []api.Entry, i int, instead bool, e api.Entry) []api.Entry {
	out := make([]api.Entry, 0, len(l)+1)
	out = append(out, l[:i]...)
	out = append(out, e)
	if instead {
		i++
	}
	return append(out, l[i:]...)
}

// Put a value at a key, as a node: one version more than there is.
func Put(l []api.Entry, node int, key, value string) ([]api.Entry, api.Errno) {
	if code := Check(l); code != api.OK {
		return nil, code
	}
	if !IsNode(node) {
		return nil, api.ErrRange
	}
	if !Key(key) {
		return nil, api.ErrForm
	}
	if len(value) > api.MaxValue {
		return nil, api.ErrSize
	}
	i, there := find(l, key)
	if !there && len(l) >= api.MaxEntries {
		return nil, api.ErrSize
	}
	e := api.Entry{Key: key, Version: 1, Origin: node, Value: value}
	if there {
		e.Version = l[i].Version + 1
	}
	if e.Version > api.MaxVersion {
		return nil, api.ErrRange
	}
	return lay(l, i, there, e), api.OK
}
