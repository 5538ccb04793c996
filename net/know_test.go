package net_test

import (
	"fmt"
	"slices"
	"strings"
	"testing"

	"tollbar/api"
	"tollbar/store"
)

// TestTell: P4.4, lines and prefixes, each with a version of its own.
func TestTell(t *testing.T) {
	l := script(link(11, 3, 5), give(11, 9, 8))
	wantReply(t, "told", l, tell(11), keys("a:11", "p:11"))
	l = append(l, tell(11))
	wantStore(t, "told", l, 11, entry("a:11", 1, 11, "3=5"), entry("p:11", 1, 11, "9/8"))
	wantStore(t, "of another one", l, 3)
	wantReply(t, "told again", l, tell(11), keys())
	wantStore(t, "told again", append(l, tell(11), tell(11)), 11, entry("a:11", 1, 11, "3=5"), entry("p:11", 1, 11, "9/8"))

	for _, c := range []struct {
		a    api.Act
		keys []string
		want []api.Entry
	}{
		{link(0, 11, 6), []string{"a:11"}, []api.Entry{entry("a:11", 2, 11, "0=6,3=5"), entry("p:11", 1, 11, "9/8")}},
		{link(3, 11, 6), []string{"a:11"}, []api.Entry{entry("a:11", 2, 11, "3=6"), entry("p:11", 1, 11, "9/8")}},
		{cut(3, 11), []string{"a:11"}, []api.Entry{entry("a:11", 2, 11, ""), entry("p:11", 1, 11, "9/8")}},
		{drain(11, 1), []string{"a:11"}, []api.Entry{entry("a:11", 2, 11, "!3=5"), entry("p:11", 1, 11, "9/8")}},
		{give(11, 0, 0), []string{"p:11"}, []api.Entry{entry("a:11", 1, 11, "3=5"), entry("p:11", 2, 11, "0/0,9/8")}},
		{take(11, 9, 8), []string{"p:11"}, []api.Entry{entry("a:11", 1, 11, "3=5"), entry("p:11", 2, 11, "")}},
		{link(0, 3, 1), nil, []api.Entry{entry("a:11", 1, 11, "3=5"), entry("p:11", 1, 11, "9/8")}},
	} {
		changed := append(slices.Clone(l), c.a)
		wantReply(t, fmt.Sprint(c.a), changed, tell(11), keys(c.keys...))
		wantStore(t, fmt.Sprint(c.a), append(changed, tell(11)), 11, c.want...)
	}
	back := append(slices.Clone(l), drain(11, 1), drain(11, 0))
	wantReply(t, "there and back", back, tell(11), keys())
	wantReply(t, "nothing to tell is told, too", nil, tell(0), keys("a:0", "p:0"))
}

// TestTellAll: P4.4, the longest that there is to tell.
func TestTellAll(t *testing.T) {
	var l []api.Act
	for n := range api.MaxNodes - 1 {
		l = append(l, link(n, 11, api.MaxCost))
	}
	for i := range api.MaxOwn {
		l = append(l, give(11, 250+i, 8))
	}
	l = append(l, drain(11, 1))
	wantTold(t, "all", l, 11, "!0=1000,1=1000,2=1000,3=1000,4=1000,5=1000,6=1000,7=1000,8=1000,9=1000,10=1000",
		"250/8,251/8,252/8,253/8,254/8,255/8")
}

// TestTellOwn: P4.4, what stands there of another one is put again, of its own not.
func TestTellOwn(t *testing.T) {
	line := script(link(0, 1, 5))
	own := append(line, write(0, "a:0", "1=5"), write(0, "p:0", ""))
	wantReply(t, "of its own", own, tell(0), keys())
	wantStore(t, "of its own", append(own, tell(0)), 0, entry("a:0", 1, 0, "1=5"), entry("p:0", 1, 0, ""))

	one := append(line, write(0, "a:0", "x"), write(0, "p:0", ""))
	wantReply(t, "one of them", one, tell(0), keys("a:0"))
	wantStore(t, "one of them", append(one, tell(0)), 0, entry("a:0", 2, 0, "1=5"), entry("p:0", 1, 0, ""))

	forged := append(line, write(1, "a:0", "1=5"), write(1, "a:0", "1=5"), write(1, "p:0", ""), send(1, 0))
	wantReply(t, "of another one", forged, tell(0), keys("a:0", "p:0"))
	wantStore(t, "of another one", append(forged, tell(0)), 0, entry("a:0", 3, 0, "1=5"), entry("p:0", 2, 0, ""))
	wantReply(t, "taken back, it comes to the other one", append(forged, tell(0)), send(0, 1), keys("a:0", "p:0"))

	hidden := script(link(0, 1, 5), tell(1), send(1, 0), give(0, 9, 8), write(1, "a:0", "1=7"), send(1, 0), tell(0))
	wantStore(t, "beside others", hidden, 0, entry("a:0", 2, 0, "1=5"), entry("a:1", 1, 1, "0=5"), entry("p:0", 1, 0, "9/8"), entry("p:1", 1, 1, ""))
}

// TestTellRefuses: P4.4, what Put refuses; then nothing is put, not even the first one.
func TestTellRefuses(t *testing.T) {
	line := script(link(0, 1, 5), link(0, 2, 5), give(0, 9, 8))
	full := join(line, writes(0, api.MaxEntries))
	wantRefused(t, "full", full, tell(0), api.ErrSize)
	wantRefused(t, "room for one", join(line, writes(0, api.MaxEntries-1)), tell(0), api.ErrSize)
	wantReply(t, "room for two", join(line, writes(0, api.MaxEntries-2)), tell(0), keys("a:0", "p:0"))

	told := join(line, script(tell(0)), writes(0, api.MaxEntries-2), script(drain(0, 1), take(0, 9, 8)))
	wantReply(t, "full, but told", told, tell(0), keys("a:0", "p:0"))
	half := join(line, script(write(0, "a:0", "old")), writes(0, api.MaxEntries-1))
	wantRefused(t, "full, and half told", half, tell(0), api.ErrSize)
	half = join(line, script(write(0, "a:0", "1=5,2=5")), writes(0, api.MaxEntries-1))
	wantRefused(t, "full, and what is told stays", half, tell(0), api.ErrSize)
	half = join(line, script(write(0, "p:0", "9/8")), writes(0, api.MaxEntries-1))
	wantRefused(t, "full, and the second one told", half, tell(0), api.ErrSize)
	half = join(line, script(write(0, "p:0", "9/8")), writes(0, api.MaxEntries-2))
	wantReply(t, "room for the one that is not told", half, tell(0), keys("a:0"))
}

// TestSend: P4.5, all that one knows comes to the other one, and not back.
func TestSend(t *testing.T) {
	for _, line := range []api.Act{link(0, 1, 5), link(1, 0, 5)} {
		l := script(line, write(0, "x", "0"), write(0, "b", "0"), write(1, "c", "1"))
		wantReply(t, "sent", l, send(0, 1), keys("b", "x"))
		wantStore(t, "sent", append(l, send(0, 1)), 1, entry("b", 1, 0, "0"), entry("c", 1, 1, "1"), entry("x", 1, 0, "0"))
		wantStore(t, "sent", append(l, send(0, 1)), 0, entry("b", 1, 0, "0"), entry("x", 1, 0, "0"))
		wantReply(t, "sent again", append(l, send(0, 1)), send(0, 1), keys())
		wantReply(t, "sent back", append(l, send(0, 1)), send(1, 0), keys("c"))
		wantReply(t, "what comes later", append(l, send(0, 1), write(0, "b", "0")), send(0, 1), keys("b"))
	}
	wantReply(t, "nothing", script(link(0, 1, 5), write(1, "c", "1")), send(0, 1), keys())
	wantReply(t, "nothing to nobody", script(link(0, 1, 5)), send(0, 1), keys())

	far := script(link(0, 1, 5), link(1, 2, 5), write(0, "x", "0"), send(0, 1))
	wantReply(t, "sent on", far, send(1, 2), keys("x"))
	wantStore(t, "sent on", append(far, send(1, 2)), 2, entry("x", 1, 0, "0"))
	wantReply(t, "as it was, when it was sent", append(far, write(0, "x", "1")), send(1, 2), keys("x"))
}

// TestSendGreater: P4.5, the greater entry of each key stays.
func TestSendGreater(t *testing.T) {
	l := script(link(0, 1, 5),
		write(0, "a", "z"), write(1, "a", "y"), // one version: that of the greater node
		write(0, "b", "y"), write(0, "b", "x"), write(1, "b", "z"), // the later version
		write(0, "c", "y"), write(1, "c", "x"), write(1, "c", "x"))
	at := []api.Entry{entry("a", 1, 1, "y"), entry("b", 2, 0, "x"), entry("c", 2, 1, "x")}
	wantReply(t, "to the greater node", l, send(0, 1), keys("b"))
	wantStore(t, "to the greater node", append(l, send(0, 1)), 1, at...)
	wantReply(t, "to the lower node", l, send(1, 0), keys("a", "c"))
	wantStore(t, "to the lower node", append(l, send(1, 0)), 0, at...)
}

// TestSendFull: P4.5, a full store takes newer entries, but no new keys; of those that are too many the first ones come.
func TestSendFull(t *testing.T) {
	full := join(script(link(0, 1, 5)), writes(1, api.MaxEntries))
	wantReply(t, "to a full one", join(full, script(write(0, "a", ""), write(0, "k05", ""), write(0, "k06", ""), write(0, "k06", ""), write(0, "z", ""))),
		send(0, 1), keys("k06"))
	room := join(script(link(0, 1, 5)), writes(1, api.MaxEntries-2))
	wantReply(t, "to one with room for two", join(room, script(write(0, "c", ""), write(0, "b", ""), write(0, "a", ""))),
		send(0, 1), keys("a", "b"))
	wantReply(t, "all of a full one", join(full, script(write(0, "a", ""))), send(1, 0), keys(firstKeys(api.MaxEntries-1)...))
}

func firstKeys(n int) []string {
	var l []string
	for _, a := range writes(0, n) {
		l = append(l, a.Key)
	}
	return l
}

// TestSendTurned: P4.5, of the N-th byte, round and round, the lowest bit is turned.
func TestSendTurned(t *testing.T) {
	for _, before := range [][]api.Act{
		script(link(0, 1, 5), write(1, "c", "1")),
		script(link(0, 1, 5), give(0, 9, 8), tell(0), write(1, "c", "1")),
	} {
		_, stores := run(t, before)
		b, _ := store.Encode(stores[0])
		for n := range 3 * len(b) {
			want := api.ErrSum
			if n%len(b) == 0 {
				want = api.ErrForm // the mark
			}
			wantRefused(t, fmt.Sprint("byte ", n, " turned"), before, turn(0, 1, n), want)
		}
		for _, n := range []int{greatest, greatest - 1, greatest - greatest%len(b), 1 << 32, 1<<32 - 1, 1 << 31} {
			want := api.ErrSum
			if n%len(b) == 0 {
				want = api.ErrForm
			}
			wantRefused(t, fmt.Sprint("byte ", n, " turned"), before, turn(0, 1, n), want)
		}
		told := len(stores[0]) > 0
		for _, n := range []int{-1, -2, -len(b), least, -1 << 32} {
			want := keys()
			if told {
				want = keys("a:0", "p:0")
			}
			wantReply(t, fmt.Sprint("none turned, ", n), before, turn(0, 1, n), want)
		}
		wantReply(t, "what is turned does not stay so", append(before, turn(0, 1, 3), write(0, "z", "")), send(0, 1),
			keys(append(toldKeys(told), "z")...))
	}
}

func toldKeys(told bool) []string {
	if told {
		return []string{"a:0", "p:0"}
	}
	return nil
}

// TestSendRefuses: P4.5, and which error comes first.
func TestSendRefuses(t *testing.T) {
	before := script(link(0, 1, 5), link(1, 2, 5), tell(0), tell(1), write(2, "k", "v"))
	for _, n := range []int{-1, 0, 7} {
		for _, b := range []int{-1, api.MaxNodes, least, greatest, 1 << 32, 1<<32 + 1} {
			wantRefused(t, fmt.Sprint("to ", b), before, turn(0, b, n), api.ErrRange)
		}
		for _, b := range []int{0, 2, 3, 11} {
			wantRefused(t, fmt.Sprint("no line to ", b), before, turn(0, b, n), api.ErrNone)
		}
		wantRefused(t, "to itself", before, turn(1, 1, n), api.ErrNone)
		wantRefused(t, "cut", append(before, cut(1, 0)), turn(0, 1, n), api.ErrNone)
	}
	wantReply(t, "a line is enough, told or not", script(tell(0), link(0, 1, 5)), send(0, 1), keys("a:0", "p:0"))
	wantReply(t, "a drained one, too", script(link(0, 1, 5), drain(0, 1), drain(1, 1), tell(0)), send(0, 1), keys("a:0", "p:0"))
}

// TestWrite: P4.6, each time with one version more.
func TestWrite(t *testing.T) {
	wantReply(t, "new", nil, write(3, "k", "v"), keys("k"))
	wantStore(t, "new", script(write(3, "k", "v")), 3, entry("k", 1, 3, "v"))
	wantStore(t, "of another one", script(write(3, "k", "v")), 2)
	wantReply(t, "the same again", script(write(3, "k", "v")), write(3, "k", "v"), keys("k"))
	wantStore(t, "the same again", script(write(3, "k", "v"), write(3, "k", "v")), 3, entry("k", 2, 3, "v"))
	wantStore(t, "another value", script(write(3, "k", "v"), write(3, "b", ""), write(3, "k", "\xff\x00")), 3, entry("b", 1, 3, ""), entry("k", 2, 3, "\xff\x00"))
	came := script(link(2, 3, 1), write(2, "k", "v"), send(2, 3))
	wantStore(t, "over that of another one", append(came, write(3, "k", "w")), 3, entry("k", 2, 3, "w"))
	wantReply(t, "where another one tells", nil, write(3, "a:0", "3=1"), keys("a:0"))
	long := strings.Repeat("x", api.MaxValue)
	wantStore(t, "the longest", script(write(3, "zzzzzzz9", long)), 3, entry("zzzzzzz9", 1, 3, long))
}

// TestWriteRefuses: P4.6, what Put refuses, and which error comes first.
func TestWriteRefuses(t *testing.T) {
	long := strings.Repeat("x", api.MaxValue+1)
	before := script(link(0, 1, 1), write(0, "k", "v"))
	full := join(script(link(0, 1, 1)), writes(0, api.MaxEntries))
	for _, key := range []string{"", "Bad", "a b", "k\x00", "abcdefghi", "ä", strings.Repeat("k", 1<<16)} {
		wantRefused(t, "key "+key[:min(9, len(key))], before, write(0, key, "v"), api.ErrForm)
		wantRefused(t, "key and value", before, write(0, key, long), api.ErrForm)
		wantRefused(t, "key of a full one", full, write(0, key, "v"), api.ErrForm)
	}
	wantRefused(t, "value", before, write(0, "k", long), api.ErrSize)
	wantRefused(t, "value, new", before, write(0, "n", long), api.ErrSize)
	wantRefused(t, "a long value", before, write(0, "k", strings.Repeat("x", 1<<16)), api.ErrSize)
	wantRefused(t, "full", full, write(0, "n", "v"), api.ErrSize)
	wantRefused(t, "full, and the value", full, write(0, "k00", long), api.ErrSize)
	wantReply(t, "full, but not new", full, write(0, "k00", "w"), keys("k00"))
	wantReply(t, "another one is full", full, write(1, "n", "v"), keys("n"))
}
