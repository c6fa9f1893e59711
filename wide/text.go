package wide

import (
	"strings"

	"purser/api"
)

// The bytes of a number, and its digits.
const (
	byteCount  = 32
	digitCount = 64
	digits     = "0123456789abcdef"
)

// Read is the number of 32 bytes, the least significant first.
func Read(b []byte) (api.Wide, api.Errno) {
	if len(b) != byteCount {
		return api.Wide{}, api.ErrWide
	}
	var a api.Wide
	for i, x := range b {
		a[i/8] |= uint64(x) << (8 * (i % 8))
	}
	return a, api.OK
}

// Bytes are those of a number, the least significant first.
func Bytes(a api.Wide) []byte {
	b := make([]byte, byteCount)
	for i := range b {
		b[i] = byte(a[i/8] >> (8 * (i % 8)))
	}
	return b
}

// Parse is the number of 64 digits, the most significant first.
func Parse(s string) (api.Wide, api.Errno) {
	if len(s) != digitCount {
		return api.Wide{}, api.ErrWide
	}
	var a api.Wide
	for i := range digitCount {
		digit := strings.IndexByte(digits, s[i])
		if digit < 0 {
			return api.Wide{}, api.ErrWide
		}
		a = Left(a, 4)
		a[0] |= uint64(digit)
	}
	return a, api.OK
}

// Digits are those of a number, the most significant first.
func Digits(a api.Wide) string {
	var s strings.Builder
	for i := range digitCount {
		place := digitCount - 1 - i
		s.WriteByte(digits[a[place/16]>>(4*(place%16))&15])
	}
	return s.String()
}
