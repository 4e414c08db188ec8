package dice

import "math/bits"

// wordOf is the word of a state.
func wordOf(s [4]uint64) uint64 {
	return bits.RotateLeft64(s[1]*5, 7) * 9
}

// behind is the state behind a state.
func behind(s [4]uint64) [4]uint64 {
	t := s[1] << 17
	s[2] ^= s[0]
	s[3] ^= s[1]
	s[1] ^= s[2]
	s[0] ^= s[3]
	s[2] ^= t
	s[3] = bits.RotateLeft64(s[3], 45)
	return s
}

// leap is the state n steps behind a state. The step is linear, so it is a root of its characteristic polynomial (stepPoly): the rest of x^n modulo that tells which of this state and the 255 behind it, xored, are the one wanted.
func leap(s [4]uint64, n uint64) [4]uint64 {
	which := powerOfX(n)
	var out [4]uint64
	for i := range 256 {
		if hasTerm(which, i) {
			out = xor(out, s)
		}
		s = behind(s)
	}
	return out
}

// Polynomials over bits, modulo stepPoly, stand in arrays: the bit i of the word k is that of x^(64k + i).

// stepPoly is the characteristic polynomial of the step, without its highest term x^256.
func stepPoly() [4]uint64 {
	return [4]uint64{0x9D116F2BB0F0F001, 0x0280002BCEFD1A5E, 0x04B4EDCF26259F85, 0x0003C03C3F3ECB19}
}

// powerOfX is x^n, by squaring: a great n takes no longer than its bits.
func powerOfX(n uint64) [4]uint64 {
	out := [4]uint64{1}
	for i := bits.Len64(n) - 1; i >= 0; i-- {
		out = times(out, out)
		if n>>i&1 == 1 {
			out = timesX(out)
		}
	}
	return out
}

func times(a, b [4]uint64) [4]uint64 {
	var out [4]uint64
	for i := 255; i >= 0; i-- {
		out = timesX(out)
		if hasTerm(b, i) {
			out = xor(out, a)
		}
	}
	return out
}

func timesX(p [4]uint64) [4]uint64 {
	over := hasTerm(p, 255)
	for k := 3; k > 0; k-- {
		p[k] = p[k]<<1 | p[k-1]>>63
	}
	p[0] <<= 1
	if over {
		p = xor(p, stepPoly())
	}
	return p
}

func hasTerm(p [4]uint64, i int) bool {
	return p[i/64]>>(i%64)&1 == 1
}

func xor(a, b [4]uint64) [4]uint64 {
	for i := range a {
		a[i] ^= b[i]
	}
	return a
}
