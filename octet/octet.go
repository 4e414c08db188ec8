// Package octet: bytes: words, numbers of any length, sums, decimal texts: see DOC.md.
package octet

import (
	"strconv"

	"wayfare/api"
)

// sumSize is how many bytes the word of a sum has.
const sumSize = 4

// widthOK tells whether a word may have so many bytes.
func widthOK(size int) bool {
	return size >= 1 && size <= 8
}

// Zig folds the sign into the lowest bit, so that numbers near 0 on either side become small words.
func Zig(v int64) uint64 {
	return uint64(v)<<1 ^ uint64(v>>63)
}

// Zag unfolds it.
func Zag(u uint64) int64 {
	return int64(u>>1) ^ -int64(u&1)
}

// Decimal writes a number in digits.
func Decimal(v uint64) string {
	return strconv.FormatUint(v, 10)
}

// Number reads it.
func Number(s string) (uint64, api.Errno) {
	if !isDecimal(s) {
		return 0, api.ErrDigits
	}
	v, err := strconv.ParseUint(s, 10, 64)
	if err != nil { // of digits alone nothing is refused but their length
		return 0, api.ErrLong
	}
	return v, api.OK
}

// isDecimal tells whether a text is a decimal text of any number, however great.
func isDecimal(s string) bool {
	if s == "" || s[0] == '0' && len(s) > 1 {
		return false
	}
	for i := range len(s) { // by bytes: digits of other scripts are none
		if s[i] < '0' || s[i] > '9' {
			return false
		}
	}
	return true
}
