package octet

import "wayfare/api"

// sumPoly is CRC-32C's polynomial without its highest term; the lowest bit stands for x^31, the highest for 1.
const sumPoly = 0x82F63B78

// Registers, too, are polynomials in that order of bits, and moving one on by a bit is multiplying it by x.
const (
	sumOne  uint32 = 1 << 31 // 1
	sumByte uint32 = 1 << 23 // x^8: moves a register on by a byte of 0
)

// sums tells what four bits of a register, moved on by four, leave behind: by half bytes it is a table of a few words.
var sums = makeSums()

func makeSums() [16]uint32 {
	var out [16]uint32
	for i := range out {
		r := uint32(i)
		for range 4 {
			r = moveBit(r)
		}
		out[i] = r
	}
	return out
}

// moveBit moves a register on by one bit of 0.
func moveBit(r uint32) uint32 {
	if r&1 == 1 {
		return r>>1 ^ sumPoly
	}
	return r >> 1
}

// Crc tells the sum of bytes.
func Crc(b []byte) uint32 {
	r := ^uint32(0)
	for _, x := range b {
		r ^= uint32(x)
		r = r>>4 ^ sums[r&15]
		r = r>>4 ^ sums[r&15]
	}
	return ^r
}

// CrcJoin tells the sum of two texts of bytes one behind the other, from their sums and the length of the second.
func CrcJoin(a, b uint32, n int) (uint32, api.Errno) {
	if n < 0 {
		return 0, api.ErrPlace
	}
	return timesSum(a, zeroBytes(n)) ^ b, api.OK
}

// zeroBytes is what a register is multiplied by to be moved on by n bytes of 0: a power, had by squaring, so that a great n takes no longer than its bits.
func zeroBytes(n int) uint32 {
	out, square := sumOne, sumByte
	for ; n > 0; n >>= 1 {
		if n&1 == 1 {
			out = timesSum(out, square)
		}
		square = timesSum(square, square)
	}
	return out
}

// timesSum multiplies two polynomials modulo the sum's.
func timesSum(a, b uint32) uint32 {
	var out uint32
	for bit := sumOne; bit != 0; bit >>= 1 {
		if a&bit != 0 {
			out ^= b
		}
		b = moveBit(b)
	}
	return out
}
