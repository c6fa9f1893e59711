package block

import (
	"strings"

	"purser/api"
)

const digits = "0123456789abcdef"

// Show is the display form of a hash: its digits, the last byte first.
func Show(h api.Hash) string {
	var s strings.Builder
	for _, b := range reversed(h) {
		s.WriteByte(digits[b>>4])
		s.WriteByte(digits[b&15])
	}
	return s.String()
}

// Read is the hash of a display form.
func Read(s string) (api.Hash, api.Errno) {
	var h api.Hash
	if len(s) != 2*len(h) {
		return api.Hash{}, api.ErrBlock
	}
	for i := range s {
		digit := strings.IndexByte(digits, s[i])
		if digit < 0 {
			return api.Hash{}, api.ErrBlock
		}
		h[i/2] = h[i/2]<<4 | byte(digit)
	}
	return reversed(h), api.OK
}

// reversed is a hash with its bytes in reverse order.
func reversed(h api.Hash) api.Hash {
	last := len(h) - 1
	for i := range len(h) / 2 {
		h[i], h[last-i] = h[last-i], h[i]
	}
	return h
}
