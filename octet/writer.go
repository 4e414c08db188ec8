package octet

import (
	"bytes"

	"wayfare/api"
)

// Writer takes bytes in.
type Writer struct {
	bytes []byte
}

// NewWriter is a writer without bytes.
func NewWriter() *Writer {
	return &Writer{}
}

// Word writes a number of size bytes, the lowest first.
func (w *Writer) Word(v uint64, size int) api.Errno {
	if !widthOK(size) || v>>(8*size) != 0 {
		return api.ErrWidth
	}
	for range size {
		w.bytes = append(w.bytes, byte(v))
		v >>= 8
	}
	return api.OK
}

// Var writes a number in as few groups of seven bits as it needs.
func (w *Writer) Var(v uint64) {
	for v >= 128 {
		w.bytes = append(w.bytes, byte(v)|128)
		v >>= 7
	}
	w.bytes = append(w.bytes, byte(v))
}

// Bytes writes bytes.
func (w *Writer) Bytes(b []byte) {
	w.bytes = append(w.bytes, b...)
}

// Len tells how many bytes were written.
func (w *Writer) Len() int {
	return len(w.bytes)
}

// Seal writes the sum of the bytes from a place on.
func (w *Writer) Seal(from int) api.Errno {
	if from < 0 || from > len(w.bytes) {
		return api.ErrPlace
	}
	return w.Word(uint64(Crc(w.bytes[from:])), sumSize)
}

// Out tells the bytes: a copy, since the writer may go on.
func (w *Writer) Out() []byte {
	return bytes.Clone(w.bytes)
}
