package octet_test

import (
	"math"
	"math/big"
	"math/rand/v2"
	"strings"
	"testing"

	"wayfare/api"
	"wayfare/octet"
)

func TestZigZag(t *testing.T) {
	for _, c := range []struct {
		v int64
		u uint64
	}{
		{0, 0}, {-1, 1}, {1, 2}, {-2, 3}, {2, 4}, {-3, 5},
		{math.MaxInt64, math.MaxUint64 - 1}, {math.MinInt64, math.MaxUint64}, {math.MinInt64 + 1, math.MaxUint64 - 2},
	} {
		if u := octet.Zig(c.v); u != c.u {
			t.Errorf("B8: Zig(%d) = %d, want %d", c.v, u, c.u)
		}
		if v := octet.Zag(c.u); v != c.v {
			t.Errorf("B8: Zag(%d) = %d, want %d", c.u, v, c.v)
		}
	}
	dice := rand.New(rand.NewPCG(9, 10))
	for range 1000 {
		u := dice.Uint64() >> dice.IntN(64)
		if got := octet.Zig(octet.Zag(u)); got != u {
			t.Errorf("B8: Zig(Zag(%d)) = %d", u, got)
		}
		if got := octet.Zag(octet.Zig(int64(u))); got != int64(u) {
			t.Errorf("B8: Zag(Zig(%d)) = %d", int64(u), got)
		}
	}
}

func TestDecimal(t *testing.T) {
	for s, v := range map[string]uint64{
		"0": 0, "1": 1, "9": 9, "10": 10, "4294967296": 1 << 32,
		"9223372036854775808": 1 << 63, "18446744073709551615": math.MaxUint64,
	} {
		if got := octet.Decimal(v); got != s {
			t.Errorf("B9: Decimal(%d) = %q", v, got)
		}
		if got, e := octet.Number(s); got != v || e != api.OK {
			t.Errorf("B9: Number(%q) = %d, %d", s, got, e)
		}
	}
	dice := rand.New(rand.NewPCG(11, 12))
	for range 1000 {
		v := dice.Uint64() >> dice.IntN(64)
		s := octet.Decimal(v)
		if want := new(big.Int).SetUint64(v).String(); s != want {
			t.Errorf("B9: Decimal(%d) = %q", v, s)
		}
		if got, e := octet.Number(s); got != v || e != api.OK {
			t.Errorf("B9: Number(%q) = %d, %d", s, got, e)
		}
	}
}

func TestNumberRefused(t *testing.T) {
	for _, s := range []string{
		"", "00", "01", "0000000000000000000000000", "018446744073709551616", "+1", "-1", "-0", " 1", "1 ", "1\n", "1_0", "0x1", "1e3", "1.0",
		"a", "12a", "/", ":", "1/", "1:", "\x00", "1\x00", "\xFF", "\u0663", "1\u0663", "99999999999999999999x", "x99999999999999999999",
	} {
		if v, e := octet.Number(s); v != 0 || e != api.ErrDigits {
			t.Errorf("B9: Number(%q) = %d, %d", s, v, e)
		}
	}
	for _, s := range []string{
		"18446744073709551616", "18446744073709551620", "20000000000000000000", "99999999999999999999", "100000000000000000000",
		"184467440737095516150", "340282366920938463463374607431768211456", "1" + strings.Repeat("0", 100000),
	} {
		if v, e := octet.Number(s); v != 0 || e != api.ErrLong {
			t.Errorf("B9: Number(%.40q) = %d, %d", s, v, e)
		}
	}
}
