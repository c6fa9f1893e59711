package sha

import (
	"iter"
	"math/bits"

	"purser/api"
)

// Sizes in bytes: of a block, and of the message's length at the end of the last one.
const (
	blockSize  = 64
	lengthSize = 8
)

// Sum is that of a message given in pieces. Only New and Copy make one: made tells it from the zero value.
type Sum struct {
	state  [8]uint32
	tail   [blockSize]byte
	used   int
	length uint64
	made   bool
}

// New is a sum of the empty message.
func New() *Sum {
	return &Sum{state: squares(), made: true}
}

// none says whether neither New nor Copy made the sum.
func (s *Sum) none() bool { return s == nil || !s.made }

// Write adds bytes to the message.
func (s *Sum) Write(b []byte) *Sum {
	if s.none() {
		return nil
	}
	s.length += uint64(len(b))
	s.add(b)
	return s
}

// add takes in bytes block by block, and keeps those of a block that is not full.
func (s *Sum) add(b []byte) {
pieces:
	for piece := range pieces(b, blockSize-s.used) {
		s.used += copy(s.tail[s.used:], piece)
		if s.used < blockSize {
			continue pieces
		}
		s.state = mixed(s.state, s.tail)
		s.used = 0
	}
}

// pieces produces what fills a block that has so much room, then whole blocks, then the rest.
func pieces(b []byte, room int) iter.Seq[[]byte] {
	return func(yield func([]byte) bool) {
		for len(b) > 0 {
			n := min(room, len(b))
			if !yield(b[:n]) {
				return
			}
			b, room = b[n:], blockSize
		}
	}
}

// Len is the length of the message.
func (s *Sum) Len() uint64 {
	if s.none() {
		return 0
	}
	return s.length
}

// End is the message's hash; the sum stays as it is.
func (s *Sum) End() api.Hash {
	if s.none() {
		return api.Hash{}
	}
	last := *s
	last.add(padding(last.used, last.length))
	var hash api.Hash
	for i, word := range last.state {
		for j := range 4 {
			hash[4*i+j] = byte(word >> (24 - 8*j))
		}
	}
	return hash
}

// padding is what follows a message of that length, whose last block has used bytes: a 1 bit, zeros up to the end of a block, and the length in bits.
func padding(used int, length uint64) []byte {
	n := blockSize - used
	if n < 1+lengthSize {
		n += blockSize
	}
	b := make([]byte, n)
	b[0] = 0x80
	for i := range lengthSize {
		b[n-1-i] = byte(8 * length >> (8 * i))
	}
	return b
}

// Copy is an independent sum of the same message.
func (s *Sum) Copy() *Sum {
	if s.none() {
		return nil
	}
	c := *s
	return &c
}

// mixed is the state behind a block.
func mixed(state [8]uint32, block [blockSize]byte) [8]uint32 {
	words, roots := schedule(block), cubes()
	a, b, c, d, e, f, g, h := state[0], state[1], state[2], state[3], state[4], state[5], state[6], state[7]
	for i := range 64 {
		turnedE := turned(e, 6) ^ turned(e, 11) ^ turned(e, 25)
		first := h + turnedE + (e&f ^ ^e&g) + roots[i] + words[i]
		turnedA := turned(a, 2) ^ turned(a, 13) ^ turned(a, 22)
		second := turnedA + (a&b ^ a&c ^ b&c)
		h, g, f, e, d, c, b, a = g, f, e, d+first, c, b, a, first+second
	}
	for i, x := range [8]uint32{a, b, c, d, e, f, g, h} {
		state[i] += x
	}
	return state
}

// schedule is a block's words, one for each round.
func schedule(block [blockSize]byte) [64]uint32 {
	var words [64]uint32
	for i, x := range block {
		words[i/4] = words[i/4]<<8 | uint32(x)
	}
	for i := range 48 {
		x, y := words[i+1], words[i+14]
		low := turned(x, 7) ^ turned(x, 18) ^ x>>3
		high := turned(y, 17) ^ turned(y, 19) ^ y>>10
		words[i+16] = words[i] + low + words[i+9] + high
	}
	return words
}

// turned is x with its bits turned right by n places.
func turned(x uint32, n int) uint32 { return bits.RotateLeft32(x, -n) }
