package octet_test

import (
	"math"
	"math/rand/v2"
	"testing"

	"wayfare/api"
	"wayfare/octet"
)

// moved is a register moved on by a byte, as the chapter says it: bit by bit.
func moved(r uint32, b byte) uint32 {
	r ^= uint32(b)
	for range 8 {
		if r&1 == 1 {
			r = r>>1 ^ 0x82F63B78
		} else {
			r >>= 1
		}
	}
	return r
}

func slowCrc(b []byte) uint32 {
	r := uint32(0xFFFFFFFF)
	for _, x := range b {
		r = moved(r, x)
	}
	return ^r
}

func randomBytes(dice *rand.Rand, n int) []byte {
	b := make([]byte, n)
	for i := range b {
		b[i] = byte(dice.Uint32())
	}
	return b
}

func TestCrc(t *testing.T) {
	if c := octet.Crc(nil); c != 0 {
		t.Errorf("B7: Crc(nil) = %08X", c)
	}
	if c := octet.Crc([]byte{}); c != 0 {
		t.Errorf("B7: Crc of no bytes = %08X", c)
	}
	if c := octet.Crc([]byte("123456789")); c != 0xE3069283 {
		t.Errorf("B7: Crc = %08X", c)
	}
	for i := range 256 {
		if c, want := octet.Crc([]byte{byte(i)}), slowCrc([]byte{byte(i)}); c != want {
			t.Errorf("B7: Crc of the byte %d = %08X, want %08X", i, c, want)
		}
	}
	dice := rand.New(rand.NewPCG(3, 4))
	for n := range 200 {
		b := randomBytes(dice, n)
		if c, want := octet.Crc(b), slowCrc(b); c != want {
			t.Errorf("B7: Crc of %v = %08X, want %08X", b, c, want)
		}
	}
}

func TestCrcJoin(t *testing.T) {
	if c, e := octet.CrcJoin(octet.Crc([]byte("1234")), octet.Crc([]byte("56789")), 5); c != 0xE3069283 || e != api.OK {
		t.Errorf("B7: CrcJoin = %08X, %d", c, e)
	}
	if c, e := octet.CrcJoin(7, 9, 0); c != 14 || e != api.OK {
		t.Errorf("B7: CrcJoin(7, 9, 0) = %d, %d", c, e)
	}
	for _, n := range []int{-1, math.MinInt} {
		if c, e := octet.CrcJoin(7, 9, n); c != 0 || e != api.ErrPlace {
			t.Errorf("B7: CrcJoin(7, 9, %d) = %d, %d", n, c, e)
		}
	}
	dice := rand.New(rand.NewPCG(5, 6))
	for n := range 100 {
		b := randomBytes(dice, n)
		cut := dice.IntN(n + 1)
		if c, e := octet.CrcJoin(octet.Crc(b[:cut]), octet.Crc(b[cut:]), n-cut); c != octet.Crc(b) || e != api.OK {
			t.Errorf("B7: %v cut at %d: %08X, %d", b, cut, c, e)
		}
	}
	for range 20 { // words that need be no sums
		a, b := dice.Uint32(), dice.Uint32()
		r := a
		for n := range 300 {
			if c, e := octet.CrcJoin(a, b, n); c != r^b || e != api.OK {
				t.Fatalf("B7: CrcJoin(%08X, %08X, %d) = %08X, %d", a, b, n, c, e)
			}
			r = moved(r, 0)
		}
	}
}

// shift is a linear map of registers: what becomes of each of their bits.
type shift [32]uint32

func (s *shift) of(r uint32) uint32 {
	var out uint32
	for i := range 32 {
		if r>>i&1 == 1 {
			out ^= s[i]
		}
	}
	return out
}

func TestCrcJoinFar(t *testing.T) {
	for _, n := range []int{1 << 20, 1<<31 - 1, 1 << 32, 1<<62 + 12345, math.MaxInt - 1, math.MaxInt} {
		var power shift
		for i := range power {
			power[i] = moved(1<<i, 0)
		}
		r := uint32(0xDEADBEEF)
		for k := n; k > 0; k >>= 1 {
			if k&1 == 1 {
				r = power.of(r)
			}
			var square shift
			for i := range square {
				square[i] = power.of(power[i])
			}
			power = square
		}
		if c, e := octet.CrcJoin(0xDEADBEEF, 0x12345678, n); c != r^0x12345678 || e != api.OK {
			t.Errorf("B7: CrcJoin over %d bytes = %08X, %d, want %08X", n, c, e, r^0x12345678)
		}
	}
}

// spoilt turns the bits of a pattern from a bit on.
func spoilt(b []byte, at int, pattern uint32) []byte {
	out := append([]byte(nil), b...)
	for i := range 32 {
		if pattern>>i&1 == 1 {
			out[(at+i)/8] ^= 1 << ((at + i) % 8)
		}
	}
	return out
}

func wantTold(t *testing.T, b []byte, at int, pattern uint32) {
	t.Helper()
	r := octet.NewReader(spoilt(b, at, pattern))
	r.Seek(len(b) - 4)
	if e := r.Sealed(0); e != api.ErrSum || r.At() != len(b)-4 {
		t.Fatalf("B10, P0.18: %v with %032b turned from the bit %d on: %d", b, pattern, at, e)
	}
}

func TestBurstsAreTold(t *testing.T) {
	dice := rand.New(rand.NewPCG(7, 8))
	for _, n := range []int{0, 1, 2, 3, 4, 11} {
		w := octet.NewWriter()
		w.Bytes(randomBytes(dice, n))
		w.Seal(0)
		b := w.Out()
		for at := range 8 * len(b) {
			room := min(32, 8*len(b)-at)
			short := min(room, 9)
			for pattern := uint32(1); pattern < 1<<short; pattern += 2 { // the first bit of a burst is turned
				wantTold(t, b, at, pattern)
			}
			for range 40 {
				wantTold(t, b, at, dice.Uint32()>>(32-room)|1)
			}
			wantTold(t, b, at, 1<<31>>(32-room)|1)
			wantTold(t, b, at, math.MaxUint32>>(32-room))
		}
	}
}

func TestSumIsNotChangedByUse(t *testing.T) {
	b := []byte("wayfare")
	first := octet.Crc(b)
	octet.Crc([]byte("other bytes"))
	if octet.Crc(b) != first || string(b) != "wayfare" {
		t.Errorf("P0.5: the same bytes have another sum")
	}
}
