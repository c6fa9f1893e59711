// Package octet is layer 1: fixed integers, compact sizes and byte strings as bytes; see shared/doc/01-octet.md.
package octet

import "iter"

// The first bytes that announce a longer compact size.
const (
	mark2 = 253
	mark4 = 254
	mark8 = 255
)

// Compact is how many bytes the compact size of n has.
func Compact(n uint64) int {
	switch bytes := width(n); {
	case n < mark2:
		return 1
	case bytes <= 2:
		return 3
	case bytes <= 4:
		return 5
	}
	return 9
}

// isSize says whether a fixed integer may have so many bytes.
func isSize(size int) bool {
	return size == 1 || size == 2 || size == 4 || size == 8
}

// downward produces the bytes of n, the most significant first, each with its place.
func downward(n uint64) iter.Seq2[int, byte] {
	return func(yield func(int, byte) bool) {
		for place := 7; place >= 0; place-- {
			if !yield(place, byte(n>>(8*place))) {
				return
			}
		}
	}
}

// width is the least number of bytes that hold n.
func width(n uint64) int {
	bytes := 0
search:
	for place, b := range downward(n) {
		if b != 0 {
			bytes = place + 1
			break search
		}
	}
	return bytes
}
