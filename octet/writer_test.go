package octet_test

import (
	"bytes"
	"math"
	"testing"

	"wayfare/api"
	"wayfare/octet"
)

// wrote is a writer into which bytes were put.
func wrote(b ...byte) *octet.Writer {
	w := octet.NewWriter()
	w.Bytes(b)
	return w
}

func wantOut(t *testing.T, what string, w *octet.Writer, want ...byte) {
	t.Helper()
	if !bytes.Equal(w.Out(), want) || w.Len() != len(want) {
		t.Errorf("%s: Out %v, Len %d, want %v", what, w.Out(), w.Len(), want)
	}
}

func TestErrorNumbers(t *testing.T) {
	for want, e := range []api.Errno{api.OK, api.ErrShort, api.ErrLong, api.ErrLoose, api.ErrWidth, api.ErrDigits, api.ErrPlace, api.ErrBelow} {
		if int(e) != want {
			t.Errorf("P0.8: the error %d has the number %d", want, e)
		}
	}
	if api.ErrSum != 43 || api.ErrSize != 22 {
		t.Errorf("P0.8: ErrSum %d, ErrSize %d", api.ErrSum, api.ErrSize)
	}
}

func TestNewWriterIsEmpty(t *testing.T) {
	wantOut(t, "B1: a new writer", octet.NewWriter())
}

func TestWriterWord(t *testing.T) {
	for _, c := range []struct {
		v    uint64
		size int
		want []byte
	}{
		{258, 2, []byte{2, 1}},
		{0, 1, []byte{0}},
		{255, 1, []byte{255}},
		{7, 3, []byte{7, 0, 0}},
		{1<<16 - 1, 2, []byte{255, 255}},
		{1<<56 - 1, 7, bytes.Repeat([]byte{255}, 7)},
		{0x0807060504030201, 8, []byte{1, 2, 3, 4, 5, 6, 7, 8}},
		{math.MaxUint64, 8, bytes.Repeat([]byte{255}, 8)},
	} {
		w := octet.NewWriter()
		if e := w.Word(c.v, c.size); e != api.OK {
			t.Errorf("B1: Word(%d, %d) = %d", c.v, c.size, e)
		}
		wantOut(t, "B1: Word", w, c.want...)
	}
}

func TestWriterWordRefused(t *testing.T) {
	w := wrote(9)
	for _, c := range []struct {
		v    uint64
		size int
	}{
		{256, 1}, {1 << 16, 2}, {1 << 24, 3}, {1 << 32, 4}, {1 << 40, 5}, {1 << 48, 6}, {1 << 56, 7},
		{math.MaxUint64, 7}, {0, 0}, {0, 9}, {0, -1}, {0, -8}, {0, math.MaxInt}, {0, math.MinInt}, {0, 1 << 61}, {1, 1<<61 + 1},
	} {
		if e := w.Word(c.v, c.size); e != api.ErrWidth {
			t.Errorf("B1: Word(%d, %d) = %d", c.v, c.size, e)
		}
		wantOut(t, "B1: behind a refused Word", w, 9)
	}
}

func TestWriterVar(t *testing.T) {
	for _, c := range []struct {
		v    uint64
		want []byte
	}{
		{0, []byte{0}},
		{1, []byte{1}},
		{127, []byte{127}},
		{128, []byte{128, 1}},
		{300, []byte{172, 2}},
		{1<<14 - 1, []byte{255, 127}},
		{1 << 14, []byte{128, 128, 1}},
		{1<<63 - 1, append(bytes.Repeat([]byte{255}, 8), 127)},
		{1 << 63, append(bytes.Repeat([]byte{128}, 9), 1)},
		{math.MaxUint64, append(bytes.Repeat([]byte{255}, 9), 1)},
	} {
		w := octet.NewWriter()
		w.Var(c.v)
		wantOut(t, "B1: Var", w, c.want...)
	}
}

func TestWriterPutsBehind(t *testing.T) {
	w := octet.NewWriter()
	w.Bytes(nil)
	w.Bytes([]byte{})
	wantOut(t, "P0.3: Bytes of none", w)
	w.Bytes([]byte{5, 6})
	w.Word(1, 2)
	w.Var(200)
	w.Bytes([]byte{7})
	wantOut(t, "B1: one behind the other", w, 5, 6, 1, 0, 200, 1, 7)
}

func TestSeal(t *testing.T) {
	for _, c := range []struct {
		b    string
		from int
		want []byte
	}{
		{"123456789", 0, []byte{0x83, 0x92, 0x06, 0xE3}},
		{"x123456789", 1, []byte{0x83, 0x92, 0x06, 0xE3}},
		{"123456789", 9, []byte{0, 0, 0, 0}},
		{"", 0, []byte{0, 0, 0, 0}},
	} {
		w := wrote([]byte(c.b)...)
		if e := w.Seal(c.from); e != api.OK {
			t.Errorf("B2: Seal(%d) = %d", c.from, e)
		}
		wantOut(t, "B2: Seal", w, append([]byte(c.b), c.want...)...)
	}
}

func TestSealRefused(t *testing.T) {
	w := wrote(1, 2)
	for _, from := range []int{-1, 3, math.MaxInt, math.MinInt} {
		if e := w.Seal(from); e != api.ErrPlace {
			t.Errorf("B2: Seal(%d) = %d", from, e)
		}
		wantOut(t, "B2: behind a refused Seal", w, 1, 2)
	}
}

func TestWriterSharesNothing(t *testing.T) {
	all := []byte{1, 2, 3, 4}
	in := all[:2]
	w := octet.NewWriter()
	w.Bytes(in)
	w.Bytes([]byte{5})
	if !bytes.Equal(all, []byte{1, 2, 3, 4}) {
		t.Errorf("P0.4: what was handed in is %v now", all)
	}
	all[0] = 99
	wantOut(t, "P0.4: the caller's bytes changed", w, 1, 2, 5)

	first, second := w.Out(), w.Out()
	clobber(first)
	w.Bytes([]byte{6})
	if !bytes.Equal(second, []byte{1, 2, 5}) || !bytes.Equal(first, []byte{0xEE, 0xEE, 0xEE}) {
		t.Errorf("P0.4: Out's lists: %v, %v", first, second)
	}
	wantOut(t, "P0.4: an answer changed", w, 1, 2, 5, 6)
}

// clobber writes over a list and its spare room.
func clobber(b []byte) {
	b = b[:cap(b)]
	for i := range b {
		b[i] = 0xEE
	}
}

func TestWritersAreApart(t *testing.T) {
	a, b := octet.NewWriter(), octet.NewWriter()
	a.Bytes([]byte{1})
	b.Bytes([]byte{2, 3})
	wantOut(t, "P0.5: the first writer", a, 1)
	wantOut(t, "P0.5: the second writer", b, 2, 3)
}
