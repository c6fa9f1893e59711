package sha_test

import (
	"encoding/binary"
	"math/bits"
	"slices"
	"testing"

	"purser/api"
	"purser/sha"
)

// reference is the hash of a message by FIPS 180-4 with the tables given.
func reference(square, cube []uint32, message []byte) api.Hash {
	padded := append(slices.Clone(message), 0x80)
	for len(padded)%64 != 56 {
		padded = append(padded, 0)
	}
	padded = binary.BigEndian.AppendUint64(padded, 8*uint64(len(message)))
	state := slices.Clone(square)
	for block := range slices.Chunk(padded, 64) {
		v := slices.Clone(state)
		for i, word := range referenceWords(block) {
			e, a := v[4], v[0]
			first := v[7] + (bits.RotateLeft32(e, -6) ^ bits.RotateLeft32(e, -11) ^ bits.RotateLeft32(e, -25)) + (e&v[5] ^ ^e&v[6]) + cube[i] + word
			second := (bits.RotateLeft32(a, -2) ^ bits.RotateLeft32(a, -13) ^ bits.RotateLeft32(a, -22)) + (a&v[1] ^ a&v[2] ^ v[1]&v[2])
			v = []uint32{first + second, v[0], v[1], v[2], v[3] + first, v[4], v[5], v[6]}
		}
		for i := range state {
			state[i] += v[i]
		}
	}
	var hash api.Hash
	for i, word := range state {
		binary.BigEndian.PutUint32(hash[4*i:], word)
	}
	return hash
}

func referenceWords(block []byte) []uint32 {
	words := make([]uint32, 64)
	for i := range words {
		if i < 16 {
			words[i] = binary.BigEndian.Uint32(block[4*i:])
			continue
		}
		x, y := words[i-15], words[i-2]
		low := bits.RotateLeft32(x, -7) ^ bits.RotateLeft32(x, -18) ^ x>>3
		high := bits.RotateLeft32(y, -17) ^ bits.RotateLeft32(y, -19) ^ y>>10
		words[i] = words[i-16] + low + words[i-7] + high
	}
	return words
}

// P4.1, P4.4: a hash made of the tables that Roots answers is the hash, and is not with any entry changed.
func TestRootsMakeHashes(t *testing.T) {
	square, cube := sha.Roots()
	for _, n := range []int{0, 1, 55, 56, 63, 64, 65, 119, 120, 128, 1000} {
		if b := counted(n); reference(square, cube, b) != sha.Of(b) {
			t.Error(n)
		}
	}
	for _, table := range [][]uint32{square, cube} {
		for i := range table {
			table[i]++
			if reference(square, cube, nil) == sha.Of(nil) {
				t.Error("the hash hangs not on entry", i)
			}
			table[i]--
		}
	}
}
