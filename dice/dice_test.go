package dice_test

import (
	"math"
	"math/big"
	"slices"
	"testing"

	"wayfare/api"
	"wayfare/dice"
)

// golden is no constant, so that its multiples wrap.
var golden uint64 = 0x9E3779B97F4A7C15

func from(t *testing.T, state [4]uint64, words ...uint64) *dice.Dice {
	t.Helper()
	d, e := dice.From(state, words)
	if d == nil || e != api.OK {
		t.Fatalf("D1: From(%x) = %v, %d", state, d, e)
	}
	return d
}

// stepped is the state behind a state, and wordOf its word, as the chapter says them.
func stepped(s [4]uint64) [4]uint64 {
	s0, s1, s2, s3 := s[0], s[1], s[2], s[3]
	t := s1 << 17
	s2 ^= s0
	s3 ^= s1
	s1 ^= s2
	s0 ^= s3
	s2 ^= t
	s3 = s3<<45 | s3>>19
	return [4]uint64{s0, s1, s2, s3}
}

func wordOf(s [4]uint64) uint64 {
	x := s[1] * 5
	return (x<<7 | x>>57) * 9
}

func xored(a, b [4]uint64) [4]uint64 {
	return [4]uint64{a[0] ^ b[0], a[1] ^ b[1], a[2] ^ b[2], a[3] ^ b[3]}
}

func drawn(d *dice.Dice, n int) []uint64 {
	out := make([]uint64, n)
	for i := range out {
		out[i] = d.Next()
	}
	return out
}

func TestMix(t *testing.T) {
	for x, want := range map[uint64]uint64{0: 0, golden: 0xE220A8397B1DCDAF, 2 * golden: 0x6E789E6AA1B965F4} {
		if got := dice.Mix(x); got != want {
			t.Errorf("D8: Mix(%x) = %x, want %x", x, got, want)
		}
	}
	seen := map[uint64]int{}
	for x := range uint64(5000) {
		seen[dice.Mix(x)]++
		seen[dice.Mix(^x)]++
	}
	if len(seen) != 10000 {
		t.Errorf("D8: Mix is no bijection: %d words of 10000", len(seen))
	}
}

func TestNew(t *testing.T) {
	want := [4]uint64{0xE220A8397B1DCDAF, 0x6E789E6AA1B965F4, 0x06C45D188009454F, 0xF88BB8A8724C81EC}
	if s := dice.New(0, nil).State(); s != want {
		t.Errorf("D1: New(0).State() = %x", s)
	}
	if s := dice.New(0, []uint64{}).State(); s != want {
		t.Errorf("P0.3: New(0, []).State() = %x", s)
	}
	for _, seed := range []uint64{1, 9, 1 << 63, math.MaxUint64, -golden, -(4 * golden)} {
		want := [4]uint64{dice.Mix(seed + golden), dice.Mix(seed + 2*golden), dice.Mix(seed + 3*golden), dice.Mix(seed + 4*golden)}
		d := dice.New(seed, []uint64{3})
		if d.State() != want || d.Used() != 0 {
			t.Errorf("D1: New(%x).State() = %x, want %x", seed, d.State(), want)
		}
	}
}

func TestFrom(t *testing.T) {
	d := from(t, [4]uint64{1, 2, 3, 4})
	if got := drawn(d, 2); !slices.Equal(got, []uint64{0x2D00, 0}) {
		t.Errorf("D2: %x", got)
	}
	if s := d.State(); s != [4]uint64{0xC00000000007, 0x40005, 0x40005, 0x18000000} {
		t.Errorf("D7: State = %x", s)
	}
	for _, words := range [][]uint64{nil, {}, {7}} {
		if d, e := dice.From([4]uint64{}, words); d != nil || e != api.ErrBelow {
			t.Errorf("D1: From of an all-0 state = %v, %d", d, e)
		}
	}
	for i := range 4 { // one word that is not 0 makes it a state
		var s [4]uint64
		s[i] = 1 << 63
		if d := from(t, s); d.State() != s {
			t.Errorf("D1: From(%x).State() = %x", s, d.State())
		}
	}
}

func TestFor(t *testing.T) {
	for _, worker := range []int{-1, math.MinInt} {
		if d, e := dice.For(5, worker, []uint64{1}); d != nil || e != api.ErrPlace {
			t.Errorf("D1: For(5, %d) = %v, %d", worker, d, e)
		}
	}
	for _, worker := range []int{0, 1, 63, 64, math.MaxInt} {
		for _, seed := range []uint64{0, 5, math.MaxUint64} {
			d, e := dice.For(seed, worker, []uint64{1})
			if e != api.OK {
				t.Fatalf("D1: For(%d, %d) = %d", seed, worker, e)
			}
			want := dice.New(dice.Mix(seed^dice.Mix(uint64(worker)+1)), []uint64{1})
			if got := drawn(d, 5); !slices.Equal(got, drawn(want, 5)) || d.State() != want.State() {
				t.Errorf("D1: For(%d, %d) draws %x", seed, worker, got)
			}
		}
	}
}

func TestNext(t *testing.T) {
	d := from(t, [4]uint64{1, 2, 3, 4}, 7)
	if a, b := d.Next(), d.Next(); a != 7 || b != 0x2D00 || d.Used() != 2 {
		t.Errorf("D2, D7: %x, %x, Used %d", a, b, d.Used())
	}
	s := [4]uint64{9, 1 << 63, 0, 77}
	given := []uint64{5, 0, math.MaxUint64}
	d = from(t, s, given...)
	for i, want := range given {
		if w := d.Next(); w != want || d.State() != s || d.Used() != i+1 {
			t.Errorf("D2: the given word %d is %x, State %x, Used %d", i, w, d.State(), d.Used())
		}
	}
	for i := range 1000 {
		if w := d.Next(); w != wordOf(s) {
			t.Fatalf("D2: the word %d of the generator is %x, want %x", i, w, wordOf(s))
		}
		s = stepped(s)
		if d.State() != s || d.Used() != 4+i {
			t.Fatalf("D7: State %x, Used %d", d.State(), d.Used())
		}
	}
}

func TestBelow(t *testing.T) {
	d := dice.New(9, []uint64{1 << 63, math.MaxUint64, 0})
	for i, c := range []struct {
		n, want uint64
		e       api.Errno
		used    int
	}{{3, 1, api.OK, 1}, {3, 2, api.OK, 2}, {0, 0, api.ErrBelow, 2}, {3, 0, api.OK, 3}} {
		if v, e := d.Below(c.n); v != c.want || e != c.e || d.Used() != c.used {
			t.Errorf("D3: the call %d: %d, %d, Used %d", i, v, e, d.Used())
		}
	}
	words := []uint64{0, 1, 1<<63 - 1, 1 << 63, math.MaxUint64, golden}
	for _, n := range []uint64{1, 2, 3, 10, 1 << 32, 1<<63 + 1, math.MaxUint64} {
		d := dice.New(1, words)
		for i, w := range words {
			want := new(big.Int).Mul(new(big.Int).SetUint64(w), new(big.Int).SetUint64(n))
			want.Rsh(want, 64)
			if v, e := d.Below(n); v != want.Uint64() || e != api.OK || v >= n || d.Used() != i+1 {
				t.Errorf("D3: Below(%d) of %x = %d, %d, want %d", n, w, v, e, want)
			}
		}
	}
}

func TestFair(t *testing.T) {
	d := dice.New(9, []uint64{0, 5})
	if v, e := d.Fair(3); v != 0 || e != api.OK || d.Used() != 2 {
		t.Errorf("D4: Fair(3) = %d, %d, Used %d", v, e, d.Used())
	}
	d = dice.New(9, []uint64{1, 0})
	if v, e := d.Fair(3); v != 0 || e != api.OK || d.Used() != 1 { // the low word 3 is not below 1
		t.Errorf("D4: Fair(3) = %d, %d, Used %d", v, e, d.Used())
	}
	for _, n := range []uint64{1, 2, 4, 1 << 63} { // these divide 2^64: no word is refused
		d := dice.New(9, []uint64{0, 0})
		if v, e := d.Fair(n); v != 0 || e != api.OK || d.Used() != 1 {
			t.Errorf("D4: Fair(%d) = %d, %d, Used %d", n, v, e, d.Used())
		}
	}
	// Of n = 2^63 + 1 the words whose low word is below 2^63 - 1 are refused: of 2n it is 2, of 3n it is 2^63 + 3.
	const n = 1<<63 + 1
	d = dice.New(9, []uint64{2, 2, 3, 2})
	if v, e := d.Fair(n); v != 1 || e != api.OK || d.Used() != 3 {
		t.Errorf("D4: Fair(2^63 + 1) = %d, %d, Used %d", v, e, d.Used())
	}
	// The low word 2^64 mod n itself is taken: w = (2^63 - 1) * n, since n * n = 1 modulo 2^64.
	edge := uint64(n)
	edge *= 1<<63 - 1
	d = dice.New(9, []uint64{edge - n, edge})
	if _, e := d.Fair(n); e != api.OK || d.Used() != 2 {
		t.Errorf("D4: a low word of 2^64 mod n: %d, Used %d", e, d.Used())
	}
}

func TestFairZero(t *testing.T) {
	d := dice.New(9, []uint64{6})
	if v, e := d.Fair(0); v != 0 || e != api.ErrBelow || d.Used() != 0 || d.Next() != 6 {
		t.Errorf("D4: Fair(0) = %d, %d, Used %d", v, e, d.Used())
	}
}

func TestFairLastWord(t *testing.T) {
	const n = 1<<63 + 1
	for _, c := range []struct {
		refused int
		last    uint64
		want    uint64
		used    int
	}{
		{126, 3, 1, 127},
		{127, 3, 1, 128},
		{127, 4, 2, 128}, // the low word 4 would be refused
		{128, 3, 1, 128}, // the 128th is 2, whose high word is 1
	} {
		d := dice.New(9, append(slices.Repeat([]uint64{2}, c.refused), c.last))
		if v, e := d.Fair(n); v != c.want || e != api.OK || d.Used() != c.used {
			t.Errorf("D4: behind %d refused words %d: %d, %d, Used %d", c.refused, c.last, v, e, d.Used())
		}
	}
	d := dice.New(9, make([]uint64, 300)) // the count is a call's own
	for i := 1; i <= 2; i++ {
		if v, e := d.Fair(3); v != 0 || e != api.OK || d.Used() != 128*i {
			t.Errorf("D4: only refused words: %d, %d, Used %d", v, e, d.Used())
		}
	}
}

func TestOrder(t *testing.T) {
	d := dice.New(9, []uint64{0, 0, 0, 0})
	if l, e := d.Order(4); !slices.Equal(l, []int{1, 2, 3, 0}) || e != api.OK || d.Used() != 3 {
		t.Errorf("D5: Order(4) = %v, %d, Used %d", l, e, d.Used())
	}
	d = dice.New(9, slices.Repeat([]uint64{math.MaxUint64}, 4))
	if l, e := d.Order(5); !slices.Equal(l, []int{0, 1, 2, 3, 4}) || e != api.OK || d.Used() != 4 {
		t.Errorf("D5: Order(5) = %v, %d, Used %d", l, e, d.Used())
	}
	for n := range 40 {
		a, b := dice.New(uint64(n), nil), dice.New(uint64(n), nil)
		want := make([]int, n)
		for i := range want {
			want[i] = i
		}
		for i := n - 1; i >= 1; i-- {
			j, _ := b.Below(uint64(i + 1))
			want[i], want[j] = want[j], want[i]
		}
		if l, e := a.Order(n); !slices.Equal(l, want) || e != api.OK || a.Used() != max(n-1, 0) || a.State() != b.State() {
			t.Errorf("D5: Order(%d) = %v, %d, Used %d, want %v", n, l, e, a.Used(), want)
		}
	}
}

func TestOrderEdges(t *testing.T) {
	d := dice.New(9, []uint64{8})
	for _, c := range []struct {
		n int
		e api.Errno
	}{{-1, api.ErrBelow}, {math.MinInt, api.ErrBelow}, {api.MaxVertices + 1, api.ErrSize}, {math.MaxInt, api.ErrSize}} {
		if l, e := d.Order(c.n); l != nil || e != c.e || d.Used() != 0 {
			t.Errorf("D5: Order(%d) = %v, %d, Used %d", c.n, l, e, d.Used())
		}
	}
	for n, want := range [][]int{{}, {0}} {
		if l, e := d.Order(n); !slices.Equal(l, want) || e != api.OK || d.Used() != 0 {
			t.Errorf("D5: Order(%d) = %v, %d, Used %d", n, l, e, d.Used())
		}
	}
	if d.Next() != 8 {
		t.Error("D5: a refused Order has drawn")
	}
}

func TestOrderHasEachOnce(t *testing.T) {
	for _, n := range []int{1, 2, 3, 100, 4097, api.MaxVertices} {
		d := dice.New(3, []uint64{1, math.MaxUint64})
		l, e := d.Order(n)
		if len(l) != n || e != api.OK || d.Used() != n-1 {
			t.Fatalf("D12: Order(%d) has %d numbers, %d, Used %d", n, len(l), e, d.Used())
		}
		slices.Sort(l)
		for i, v := range l {
			if i != v {
				t.Fatalf("D12: Order(%d) has not the number %d", n, i)
			}
		}
	}
}

func TestSkip(t *testing.T) {
	for _, n := range []uint64{0, 1, 2, 3, 63, 64, 255, 256, 257, 1000, 4095, 4096, 4097, 70000} {
		a, b := dice.New(3, []uint64{8, 9}), dice.New(3, nil)
		a.Next()
		a.Skip(n)
		for range n {
			b.Next()
		}
		if a.State() != b.State() || a.Used() != 1 || a.Next() != 9 || a.Next() != b.Next() || a.Used() != 3 {
			t.Errorf("D6: Skip(%d)", n)
		}
	}
}

// leaps is a linear map of states: what becomes of each of their bits.
type leaps [256][4]uint64

func (l *leaps) of(s [4]uint64) [4]uint64 {
	var out [4]uint64
	for i := range l {
		if s[i/64]>>(i%64)&1 == 1 {
			out = xored(out, l[i])
		}
	}
	return out
}

// slowSkip is the state n steps behind, by squaring the step's matrix.
func slowSkip(s [4]uint64, n uint64) [4]uint64 {
	power := new(leaps)
	for i := range power {
		var unit [4]uint64
		unit[i/64] = 1 << (i % 64)
		power[i] = stepped(unit)
	}
	for ; n > 0; n >>= 1 {
		if n&1 == 1 {
			s = power.of(s)
		}
		square := new(leaps)
		for i := range square {
			square[i] = power.of(power[i])
		}
		power = square
	}
	return s
}

func TestSkipFar(t *testing.T) {
	s := [4]uint64{1, 0, golden, 1 << 63}
	for _, n := range []uint64{1 << 20, 1<<32 + 17, 1 << 63, math.MaxUint64 - 1, math.MaxUint64} {
		d := from(t, s)
		d.Skip(n)
		if want := slowSkip(s, n); d.State() != want || d.Used() != 0 {
			t.Errorf("D6: Skip(%d) = %x, want %x", n, d.State(), want)
		}
	}
}

func TestSkipAdds(t *testing.T) {
	for _, c := range [][2]uint64{{0, 0}, {1, 1}, {5, 300}, {1 << 40, 12345}, {1 << 63, 1<<63 - 1}, {math.MaxUint64, 0}, {golden, 99}} {
		a, b := dice.New(4, nil), dice.New(4, nil)
		a.Skip(c[0])
		a.Skip(c[1])
		b.Skip(c[0] + c[1])
		if a.State() != b.State() {
			t.Errorf("D10: Skip(%d), Skip(%d)", c[0], c[1])
		}
	}
	a, b := dice.New(4, []uint64{1}), dice.New(4, []uint64{1})
	want := drawn(a, 10)
	drawn(b, 4)
	b.Skip(1)
	if got := drawn(b, 5); !slices.Equal(got, want[5:]) {
		t.Errorf("D10: behind Skip(1) %x, want %x", got, want[5:])
	}
}

func TestStepIsLinear(t *testing.T) {
	src := dice.New(77, nil)
	for range 100 {
		var a, b [4]uint64
		copy(a[:], drawn(src, 4))
		copy(b[:], drawn(src, 4))
		x, y, z := from(t, a), from(t, b), from(t, xored(a, b))
		x.Next()
		y.Next()
		z.Next()
		if z.State() != xored(x.State(), y.State()) {
			t.Errorf("D11: %x and %x", a, b)
		}
		x.Skip(a[0])
		y.Skip(a[0])
		z.Skip(a[0])
		if z.State() != xored(x.State(), y.State()) {
			t.Errorf("D11: %x and %x, %d steps", a, b, a[0])
		}
	}
}

func TestRefusedChangesNothing(t *testing.T) {
	a, b := dice.New(6, []uint64{4}), dice.New(6, []uint64{4})
	a.Below(0)
	a.Fair(0)
	a.Order(-1)
	a.Order(api.MaxVertices + 1)
	if a.State() != b.State() || a.Used() != 0 || !slices.Equal(drawn(a, 4), drawn(b, 4)) {
		t.Error("P0.5: a refused call has drawn")
	}
}

func TestDiceShareNothing(t *testing.T) {
	all := []uint64{1, 2, 3, 4}
	words := all[:3]
	a := dice.New(6, words)
	b, _ := dice.From([4]uint64{1, 2, 3, 4}, words)
	c, _ := dice.For(6, 0, words)
	drawn(a, 2)
	for i := range all {
		all[i] = 99
	}
	if got := a.Next(); got != 3 {
		t.Errorf("P0.4, D9: New's words: %d", got)
	}
	for _, d := range []*dice.Dice{b, c} {
		if got := drawn(d, 3); !slices.Equal(got, []uint64{1, 2, 3}) || d.Used() != 3 {
			t.Errorf("P0.4, D9: From's and For's words: %v", got)
		}
	}
	drawn(a, 9)
	if !slices.Equal(all, []uint64{99, 99, 99, 99}) {
		t.Errorf("P0.4: what was handed in is %v now", all)
	}
	s := a.State()
	s[0]++
	if a.State() == s {
		t.Error("P0.4: State shares the state")
	}
	x, _ := a.Order(5)
	before := slices.Clone(x)
	y, _ := a.Order(5)
	for i := range y[:cap(y)] {
		y[:cap(y)][i] = -1
	}
	if !slices.Equal(x, before) {
		t.Errorf("P0.4: two answers of Order share: %v", x)
	}
}

func TestDiceAreApart(t *testing.T) {
	alone := drawn(dice.New(6, []uint64{1, 2}), 6)
	a, b := dice.New(6, []uint64{1, 2}), dice.New(6, []uint64{1, 2})
	for i := range alone {
		b.Order(i)
		b.Skip(uint64(i))
		if w := a.Next(); w != alone[i] {
			t.Errorf("D9: the word %d is %x beside other dice, %x alone", i, w, alone[i])
		}
	}
}

func TestCopiedDiceDrawAlone(t *testing.T) {
	a := dice.New(6, []uint64{1, 2, 3})
	a.Next()
	b := *a
	want := drawn(&b, 5)
	if got := drawn(a, 5); !slices.Equal(got, want) || a.Used() != 6 || b.Used() != 6 {
		t.Errorf("D9: dice %x, their copy %x", got, want)
	}
}

func TestDiceOfNoCall(t *testing.T) {
	var d dice.Dice
	d.Skip(5)
	if v, e := d.Fair(3); v != 0 || e != api.OK || d.Next() != 0 || d.Used() != 129 {
		t.Errorf("P0.1: dice that no call made: %d, %d, Used %d", v, e, d.Used())
	}
}
