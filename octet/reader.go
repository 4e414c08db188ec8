package octet

import (
	"bytes"

	"wayfare/api"
)

// lastGroup is the place of the tenth byte of a number in groups: of 64 bits only the highest is left for it.
const lastGroup = 9

// Reader reads bytes from the left.
type Reader struct {
	bytes []byte
	at    int
}

// NewReader is a reader of bytes: of a copy, since the caller may change his.
func NewReader(b []byte) *Reader {
	return &Reader{bytes: bytes.Clone(b)}
}

// Word reads a number of size bytes.
func (r *Reader) Word(size int) (uint64, api.Errno) {
	if !widthOK(size) {
		return 0, api.ErrWidth
	}
	if r.Left() < size {
		return 0, api.ErrShort
	}
	var v uint64
	for i := range size {
		v |= uint64(r.bytes[r.at+i]) << (8 * i)
	}
	r.at += size
	return v, api.OK
}

// Var reads a number in groups of seven bits.
func (r *Reader) Var() (uint64, api.Errno) {
	var v uint64
	for i, b := range r.bytes[r.at:] {
		if i == lastGroup && b > 1 {
			return 0, api.ErrLong
		}
		v |= uint64(b&127) << (7 * i)
		if b >= 128 {
			continue
		}
		if b == 0 && i > 0 {
			return 0, api.ErrLoose
		}
		r.at += i + 1
		return v, api.OK
	}
	return 0, api.ErrShort
}

// Bytes reads n bytes.
func (r *Reader) Bytes(n int) ([]byte, api.Errno) {
	if n < 0 {
		return nil, api.ErrWidth
	}
	if r.Left() < n {
		return nil, api.ErrShort
	}
	out := bytes.Clone(r.bytes[r.at : r.at+n])
	r.at += n
	return out, api.OK
}

// Sealed reads a sum, which must be that of the bytes from a place up to here.
func (r *Reader) Sealed(from int) api.Errno {
	if from < 0 || from > r.at {
		return api.ErrPlace
	}
	here := r.at
	sum, e := r.Word(sumSize)
	if e != api.OK {
		return e
	}
	if sum != uint64(Crc(r.bytes[from:here])) {
		r.at = here
		return api.ErrSum
	}
	return api.OK
}

// At tells the place of the next byte.
func (r *Reader) At() int {
	return r.at
}

// Left tells how many bytes there are from there on.
func (r *Reader) Left() int {
	return len(r.bytes) - r.at
}

// Seek goes to a place.
func (r *Reader) Seek(at int) api.Errno {
	if at < 0 || at > len(r.bytes) {
		return api.ErrPlace
	}
	r.at = at
	return api.OK
}
