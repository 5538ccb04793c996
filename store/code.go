package store

import (
	"bytes"

	"tollbar/api"
)

const (
	mark         = 't'
	sealBytes    = 4
	leastBytes   = 2 + sealBytes // the mark, how many entries there are, and the seal
	sealModulus  = 65521
	versionBytes = 7 // more than MaxVersion needs, and few enough to fit a number: Check refuses what is too great
)

// Encode a store.
func Encode(l []api.Entry) ([]byte, api.Errno) {
	if code := Check(l); code != api.OK {
		return nil, code
	}
	b := []byte{mark, byte(len(l))}
	for _, e := range l {
		b = appendText(b, e.Key)
		b = appendVersion(b, e.Version)
		b = append(b, byte(e.Origin))
		b = appendText(b, e.Value)
	}
	return append(b, seal(b)...), api.OK
}

func appendText(b []byte, s string) []byte {
	b = append(b, byte(len(s)))
	return append(b, s...)
}

func appendVersion(b []byte, v int) []byte {
	for v >= 128 {
		b = append(b, byte(v%128+128))
		v /= 128
	}
	return append(b, byte(v))
}

func seal(b []byte) []byte {
	first, second := 1, 0
	for _, c := range b {
		first = (first + int(c)) % sealModulus
		second = (second + first) % sealModulus
	}
	return []byte{byte(second >> 8), byte(second), byte(first >> 8), byte(first)}
}

// Decode bytes as a store.
func Decode(b []byte) ([]api.Entry, api.Errno) {
	if code := checkFrame(b); code != api.OK {
		return nil, code
	}
	l, code := readEntries(b[1 : len(b)-sealBytes])
	if code != api.OK {
		return nil, code
	}
	if code := Check(l); code != api.OK {
		return nil, code
	}
	return l, api.OK
}

func checkFrame(b []byte) api.Errno {
	if len(b) > api.MaxBytes {
		return api.ErrSize
	}
	if len(b) < leastBytes {
		return api.ErrShort
	}
	if b[0] != mark {
		return api.ErrForm
	}
	end := len(b) - sealBytes
	if !bytes.Equal(b[end:], seal(b[:end])) {
		return api.ErrSum
	}
	return api.OK
}

func readEntries(b []byte) ([]api.Entry, api.Errno) {
	r := reader{rest: b}
	var l []api.Entry
	for range r.number() {
		e := r.entry()
		if r.code != api.OK {
			return nil, r.code
		}
		l = append(l, e)
	}
	if len(r.rest) > 0 {
		return nil, api.ErrForm
	}
	return l, r.code
}

// reader goes through bytes in their order. It keeps the first refusal, so
// that of several faults the one that comes first in the bytes is told.
type reader struct {
	rest []byte
	code api.Errno
}

// refuse leaves nothing to be read: what is asked for afterwards can't hide
// the refusal, nor look as if it had been there.
func (r *reader) refuse(code api.Errno) {
	if r.code == api.OK {
		r.code = code
	}
	r.rest = nil
}

func (r *reader) entry() api.Entry {
	var e api.Entry
	e.Key = r.text()
	e.Version = r.version()
	e.Origin = r.number()
	e.Value = r.text()
	return e
}

func (r *reader) number() int {
	if len(r.rest) == 0 {
		r.refuse(api.ErrShort)
		return 0
	}
	c := r.rest[0]
	r.rest = r.rest[1:]
	return int(c)
}

func (r *reader) text() string {
	n := r.number()
	if n > len(r.rest) {
		r.refuse(api.ErrShort)
		return ""
	}
	s := string(r.rest[:n])
	r.rest = r.rest[n:]
	return s
}

func (r *reader) version() int {
	v := 0
	for i := 0; ; i++ {
		c := r.number()
		if r.code != api.OK {
			return 0
		}
		if i == versionBytes || i > 0 && c == 0 {
			r.refuse(api.ErrForm)
			return 0
		}
		v |= c % 128 << (7 * i)
		if c < 128 {
			return v
		}
	}
}
