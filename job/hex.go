package job

import (
	"strings"

	"wayfare/api"
)

// hexDigits are the digits of bytes that are written.
const hexDigits = "0123456789abcdef"

// rowBytes is how many bytes are written a line.
const rowBytes = 32

// bytesOf are the bytes that hexadecimal digits tell, two a byte, with blanks and ends of lines anywhere.
func bytesOf(text string) ([]byte, error) {
	var out []byte
	count := 0
	for i := range len(text) {
		if strings.IndexByte(blanks+ends, text[i]) >= 0 {
			continue
		}
		d := strings.IndexByte(hexDigits, lowered(text[i]))
		if d < 0 {
			return nil, refused(api.ErrDigits)
		}
		if count%2 == 0 {
			out = append(out, byte(d)<<4)
		} else {
			out[len(out)-1] |= byte(d)
		}
		count++
	}
	if count%2 != 0 {
		return nil, refused(api.ErrDigits)
	}
	return out, nil
}

// lowered is the small letter of a great one; other bytes stay.
func lowered(b byte) byte {
	if b >= 'A' && b <= 'Z' {
		return b - 'A' + 'a'
	}
	return b
}

// hexLines are bytes as lines of hexadecimal digits.
func hexLines(b []byte) string {
	var out strings.Builder
	for i, x := range b {
		out.WriteByte(hexDigits[x>>4])
		out.WriteByte(hexDigits[x&15])
		if i%rowBytes == rowBytes-1 || i == len(b)-1 {
			out.WriteString(ends)
		}
	}
	return out.String()
}
