package octet_test

import (
	"bytes"
	"math"
	"math/rand/v2"
	"testing"

	"wayfare/api"
	"wayfare/octet"
)

func wantAt(t *testing.T, what string, r *octet.Reader, at, left int) {
	t.Helper()
	if r.At() != at || r.Left() != left {
		t.Errorf("%s: At %d, Left %d, want %d, %d", what, r.At(), r.Left(), at, left)
	}
}

func TestReaderPlaces(t *testing.T) {
	wantAt(t, "P0.3: of nil", octet.NewReader(nil), 0, 0)
	wantAt(t, "P0.3: of none", octet.NewReader([]byte{}), 0, 0)
	r := octet.NewReader([]byte{1, 2, 3})
	wantAt(t, "B3: at first", r, 0, 3)
	for _, at := range []int{3, 0, 2, 2} {
		if e := r.Seek(at); e != api.OK {
			t.Errorf("B3: Seek(%d) = %d", at, e)
		}
		wantAt(t, "B3: Seek", r, at, 3-at)
	}
	for _, at := range []int{-1, 4, math.MaxInt, math.MinInt} {
		if e := r.Seek(at); e != api.ErrPlace {
			t.Errorf("B3: Seek(%d) = %d", at, e)
		}
		wantAt(t, "B3: behind a refused Seek", r, 2, 1)
	}
	if e := octet.NewReader(nil).Seek(0); e != api.OK {
		t.Errorf("B3: Seek(0) of no bytes = %d", e)
	}
}

func TestReaderWord(t *testing.T) {
	b := []byte{1, 2, 3, 4, 5, 6, 7, 0xF8, 9}
	want := []uint64{0, 1, 0x0201, 0x030201, 0x04030201, 0x0504030201, 0x060504030201, 0x07060504030201, 0xF807060504030201}
	for size := 1; size <= 8; size++ {
		r := octet.NewReader(b)
		if v, e := r.Word(size); v != want[size] || e != api.OK {
			t.Errorf("B4: Word(%d) = %x, %d", size, v, e)
		}
		wantAt(t, "B4: Word", r, size, 9-size)
		r.Seek(9 - size)
		if _, e := r.Word(size); e != api.OK || r.Left() != 0 {
			t.Errorf("B4: Word(%d) up to the end = %d", size, e)
		}
		r.Seek(10 - size)
		if v, e := r.Word(size); v != 0 || e != api.ErrShort {
			t.Errorf("B4: Word(%d) over the end = %d, %d", size, v, e)
		}
		wantAt(t, "B4: behind a refused Word", r, 10-size, size-1)
	}
	for _, size := range []int{0, 9, -1, math.MaxInt, math.MinInt} {
		for _, at := range []int{0, 9} { // the width is asked ahead of the length
			r := octet.NewReader(b)
			r.Seek(at)
			if v, e := r.Word(size); v != 0 || e != api.ErrWidth {
				t.Errorf("B4: Word(%d) = %d, %d", size, v, e)
			}
			wantAt(t, "B4: behind a refused Word", r, at, 9-at)
		}
	}
}

func TestReaderBytes(t *testing.T) {
	r := octet.NewReader([]byte{1, 2, 3})
	if b, e := r.Bytes(0); len(b) != 0 || e != api.OK || r.At() != 0 {
		t.Errorf("B4: Bytes(0) = %v, %d", b, e)
	}
	if b, e := r.Bytes(2); !bytes.Equal(b, []byte{1, 2}) || e != api.OK {
		t.Errorf("B4: Bytes(2) = %v, %d", b, e)
	}
	for _, c := range []struct {
		n int
		e api.Errno
	}{{2, api.ErrShort}, {math.MaxInt, api.ErrShort}, {-1, api.ErrWidth}, {math.MinInt, api.ErrWidth}} {
		if b, e := r.Bytes(c.n); b != nil || e != c.e {
			t.Errorf("B4: Bytes(%d) = %v, %d", c.n, b, e)
		}
		wantAt(t, "B4: behind refused Bytes", r, 2, 1)
	}
	if b, e := r.Bytes(1); !bytes.Equal(b, []byte{3}) || e != api.OK || r.Left() != 0 {
		t.Errorf("B4: Bytes(1) = %v, %d", b, e)
	}
	if b, e := r.Bytes(0); len(b) != 0 || e != api.OK {
		t.Errorf("B4: Bytes(0) at the end = %v, %d", b, e)
	}
}

func TestReaderVar(t *testing.T) {
	high := func(n int, last ...byte) []byte { return append(bytes.Repeat([]byte{128}, n), last...) }
	full := func(n int, last ...byte) []byte { return append(bytes.Repeat([]byte{255}, n), last...) }
	for _, c := range []struct {
		b []byte
		v uint64
		e api.Errno
	}{
		{[]byte{0}, 0, api.OK},
		{[]byte{0, 128}, 0, api.OK},
		{[]byte{127}, 127, api.OK},
		{[]byte{128, 1}, 128, api.OK},
		{[]byte{172, 2, 7}, 300, api.OK},
		{full(8, 127), 1<<63 - 1, api.OK},
		{high(9, 1), 1 << 63, api.OK},
		{full(9, 1), math.MaxUint64, api.OK},
		{full(9, 1, 255), math.MaxUint64, api.OK},
		{nil, 0, api.ErrShort},
		{[]byte{128}, 0, api.ErrShort},
		{high(9), 0, api.ErrShort},
		{full(9), 0, api.ErrShort},
		{[]byte{128, 0}, 0, api.ErrLoose},
		{[]byte{129, 0}, 0, api.ErrLoose},
		{[]byte{255, 128, 0}, 0, api.ErrLoose},
		{high(9, 0), 0, api.ErrLoose},
		{full(9, 0), 0, api.ErrLoose},
		{full(9, 2), 0, api.ErrLong},
		{full(9, 127), 0, api.ErrLong},
		{full(9, 128), 0, api.ErrLong},
		{high(10), 0, api.ErrLong},
		{high(11, 0), 0, api.ErrLong},
	} {
		for _, ahead := range []int{0, 3} { // the place in the number counts, not that in the bytes
			r := octet.NewReader(append(make([]byte, ahead), c.b...))
			r.Seek(ahead)
			v, e := r.Var()
			if v != c.v || e != c.e {
				t.Errorf("B5: Var of %v = %d, %d, want %d, %d", c.b, v, e, c.v, c.e)
			}
			if e != api.OK {
				wantAt(t, "B5: behind a refused Var", r, ahead, len(c.b))
			}
		}
	}
	r := octet.NewReader([]byte{172, 2, 7})
	r.Var()
	wantAt(t, "B5: Var", r, 2, 1)
	if _, e := r.Word(2); e != api.ErrShort || r.At() != 2 {
		t.Errorf("B4: Word(2) = %d", e)
	}
	if v, e := r.Word(1); v != 7 || e != api.OK {
		t.Errorf("B4: Word(1) = %d, %d", v, e)
	}
}

func TestSealed(t *testing.T) {
	b := append([]byte("123456789"), 0x83, 0x92, 0x06, 0xE3, 0, 0, 0, 0)
	for _, c := range []struct {
		at, from int
		e        api.Errno
	}{
		{9, 0, api.OK},
		{13, 13, api.OK}, // the sum of no bytes is 0
		{9, 9, api.ErrSum},
		{9, 1, api.ErrSum},
		{13, 0, api.ErrSum},
		{9, -1, api.ErrPlace},
		{9, 10, api.ErrPlace},
		{9, math.MaxInt, api.ErrPlace},
		{9, math.MinInt, api.ErrPlace},
		{17, 0, api.ErrShort},
		{14, 14, api.ErrShort},
		{14, 15, api.ErrPlace}, // the place is asked ahead of the length
		{17, -1, api.ErrPlace},
	} {
		r := octet.NewReader(b)
		r.Seek(c.at)
		if e := r.Sealed(c.from); e != c.e {
			t.Errorf("B6: at %d: Sealed(%d) = %d, want %d", c.at, c.from, e, c.e)
		}
		at := c.at
		if c.e == api.OK {
			at += 4
		}
		wantAt(t, "B6: Sealed", r, at, 17-at)
	}
}

func TestReaderSharesNothing(t *testing.T) {
	all := []byte{1, 2, 3, 4, 5}
	r := octet.NewReader(all[:3])
	wantAt(t, "P0.4: spare room is not read", r, 0, 3)
	all[1] = 99
	got, _ := r.Bytes(2)
	if !bytes.Equal(got, []byte{1, 2}) {
		t.Errorf("B3: the caller's bytes changed: %v", got)
	}
	clobber(got)
	r.Seek(0)
	again, _ := r.Bytes(3)
	if !bytes.Equal(again, []byte{1, 2, 3}) {
		t.Errorf("P0.4: an answer changed: %v", again)
	}
	if !bytes.Equal(all, []byte{1, 99, 3, 4, 5}) {
		t.Errorf("P0.4: what was handed in is %v now", all)
	}
}

func TestReadersAreApart(t *testing.T) {
	b := []byte{1, 2}
	one, two := octet.NewReader(b), octet.NewReader(b)
	one.Word(2)
	wantAt(t, "P0.5: the other reader", two, 0, 2)
}

// TestWrittenIsRead plays calls by chance on a writer and then on a reader.
func TestWrittenIsRead(t *testing.T) {
	dice := rand.New(rand.NewPCG(1, 2))
	for range 300 {
		w := octet.NewWriter()
		var reads []func(r *octet.Reader) bool
		for range dice.IntN(20) {
			reads = append(reads, writeAny(dice, w))
		}
		r := octet.NewReader(w.Out())
		for i, read := range reads {
			if !read(r) {
				t.Fatalf("B10: the call %d of %v", i, w.Out())
			}
		}
		if r.Left() != 0 {
			t.Fatalf("B10: %d bytes are left of %v", r.Left(), w.Out())
		}
	}
}

// writeAny puts something in; what it answers reads it again.
func writeAny(dice *rand.Rand, w *octet.Writer) func(r *octet.Reader) bool {
	v := dice.Uint64() >> dice.IntN(64)
	switch dice.IntN(4) {
	case 0:
		size := 1 + dice.IntN(8)
		v &= 1<<(8*size) - 1
		w.Word(v, size)
		return func(r *octet.Reader) bool { got, e := r.Word(size); return got == v && e == api.OK }
	case 1:
		w.Var(v)
		return func(r *octet.Reader) bool { got, e := r.Var(); return got == v && e == api.OK }
	case 2:
		b := make([]byte, dice.IntN(9))
		for i := range b {
			b[i] = byte(dice.Uint32())
		}
		w.Bytes(b)
		return func(r *octet.Reader) bool { got, e := r.Bytes(len(b)); return bytes.Equal(got, b) && e == api.OK }
	default:
		from := dice.IntN(w.Len() + 1)
		w.Seal(from)
		return func(r *octet.Reader) bool { return r.Sealed(from) == api.OK }
	}
}
