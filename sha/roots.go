package sha

import (
	"sync"

	"purser/api"
	"purser/wide"
)

// tables are SHA-256's constants, built at the first call of Roots, which alone reads them: the hashes take squares and cubes.
var tables struct {
	once   sync.Once
	square [8]uint32
	cube   [64]uint32
}

// build builds the tables, unless they are built.
func build() {
	tables.once.Do(func() {
		prime := uint64(1)
		for i := range tables.cube {
			prime = nextPrime(prime)
			if i < len(tables.square) {
				tables.square[i] = fraction(prime, 2)
			}
			tables.cube[i] = fraction(prime, 3)
		}
	})
}

// nextPrime is the least prime above n.
func nextPrime(n uint64) uint64 {
	for n++; !isPrime(n); n++ {
	}
	return n
}

func isPrime(n uint64) bool {
	for d := uint64(2); d*d <= n; d++ {
		if n%d == 0 {
			return false
		}
	}
	return n > 1
}

// fraction is the first 32 bits of the fractional part of n's root of that degree.
func fraction(n uint64, degree int) uint32 {
	// The root times 2^32, rounded down, is the root of n times 2^(32 degree).
	most := wide.Left(wide.Of(n), 32*degree)
	root := uint64(0)
	for bit := 35; bit >= 0; bit-- {
		if tried := root | 1<<bit; wide.Compare(power(tried, degree), most) <= 0 {
			root = tried
		}
	}
	return uint32(root)
}

// power is n to the power of degree, which 256 bits hold for the roots tried.
func power(n uint64, degree int) api.Wide {
	p := wide.Of(1)
	for range degree {
		p, _ = wide.Mul(p, wide.Of(n))
	}
	return p
}
