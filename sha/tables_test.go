package sha

import (
	"slices"
	"testing"
)

// P4.1, P4.4: the tables that Roots answers are those that the hashes take.
func TestSameTables(t *testing.T) {
	square, cube := Roots()
	wantSquare, wantCube := squares(), cubes()
	if !slices.Equal(square, wantSquare[:]) || !slices.Equal(cube, wantCube[:]) {
		t.Errorf("%x %x, want %x %x", square, cube, wantSquare, wantCube)
	}
}

// P4.1, P4.2: no hash hangs on the variable, which Roots reads.
func TestTablesApart(t *testing.T) {
	square, cube := Roots()
	defer func() {
		copy(tables.square[:], square)
		copy(tables.cube[:], cube)
	}()
	message := []byte("a message of more bytes than a single block of the hash holds, which is 64")
	begun := New().Write(message[:5])
	of, twice, short := Of(message), Twice(message), Short(message)
	clear(tables.square[:])
	clear(tables.cube[:])
	if Of(message) != of || Twice(message) != twice || !slices.Equal(Short(message), short) {
		t.Error("hashes")
	}
	for _, s := range []*Sum{New().Write(message), begun.Copy().Write(message[5:]), begun.Write(message[5:])} {
		if s.End() != of || s.Len() != uint64(len(message)) {
			t.Error("sums")
		}
	}
	if square, cube := Roots(); square[0] != 0 || cube[0] != 0 {
		t.Error("Roots does not read the variable")
	}
}
