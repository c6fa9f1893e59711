package sha_test

import (
	"bytes"
	"crypto/sha256"
	"encoding/hex"
	"math/big"
	"math/rand"
	"slices"
	"strings"
	"testing"

	"purser/api"
	"purser/sha"
)

func counted(n int) []byte {
	b := make([]byte, n)
	for i := range b {
		b[i] = byte(i * 7)
	}
	return b
}

// P4.1, P4.4
func TestRoots(t *testing.T) {
	square, cube := sha.Roots()
	if len(square) != 8 || len(cube) != 64 || square[0] != 0x6a09e667 || cube[0] != 0x428a2f98 || square[7] != 0x5be0cd19 || cube[63] != 0xc67178f2 {
		t.Fatal(square, cube)
	}
	prime := int64(1)
	for i := range 64 {
		for prime++; !big.NewInt(prime).ProbablyPrime(10); prime++ {
		}
		if i < 8 {
			exact(t, prime, 2, square[i])
		}
		exact(t, prime, 3, cube[i])
	}
}

// P4.1
func TestPublished(t *testing.T) {
	for message, want := range map[string]string{
		"":    "e3b0c442 98fc1c14 9afbf4c8 996fb924 27ae41e4 649b934c a495991b 7852b855",
		"abc": "ba7816bf 8f01cfea 414140de 5dae2223 b00361a3 96177a9c b410ff61 f20015ad",
		"abcdbcdecdefdefgefghfghighijhijkijkljklmklmnlmnomnopnopq": "248d6a61 d20638b8 e5c02693 0c3e6039 a33ce459 64ff2167 f6ecedd4 19db06c1",
		strings.Repeat("a", 1000000):                               "cdc76e5c 9914fb92 81a1c7e2 84d73e67 f1809a48 a497200e 046d39cc c7112cd0",
	} {
		got := sha.Of([]byte(message))
		if hex.EncodeToString(got[:]) != strings.ReplaceAll(want, " ", "") {
			t.Errorf("%.20q: %x", message, got)
		}
	}
}

// P4.1
func TestHashes(t *testing.T) {
	for n := range 300 {
		b := counted(n)
		once := sha256.Sum256(b)
		twice := sha256.Sum256(once[:])
		if sha.Of(b) != api.Hash(once) || sha.Twice(b) != api.Hash(twice) || !bytes.Equal(sha.Short(b), twice[:20]) {
			t.Error(n)
		}
	}
	if sha.Of(nil) != sha.Of([]byte{}) {
		t.Error("nil")
	}
}

// exact tells of an entry that is not the fraction of the prime's root.
func exact(t *testing.T, prime, degree int64, entry uint32) {
	t.Helper()
	whole := int64(1)
	for new(big.Int).Exp(big.NewInt(whole+1), big.NewInt(degree), nil).Cmp(big.NewInt(prime)) <= 0 {
		whole++
	}
	root := new(big.Int).Add(new(big.Int).Lsh(big.NewInt(whole), 32), big.NewInt(int64(entry)))
	most := new(big.Int).Lsh(big.NewInt(prime), uint(32*degree))
	next := new(big.Int).Add(root, big.NewInt(1))
	if root.Exp(root, big.NewInt(degree), nil).Cmp(most) > 0 || next.Exp(next, big.NewInt(degree), nil).Cmp(most) <= 0 {
		t.Error(prime, degree, entry)
	}
}

// P4.2, P4.4
func TestPieces(t *testing.T) {
	r := rand.New(rand.NewSource(4))
	for n := range 300 {
		b := counted(n)
		s := sha.New()
		for done := 0; done < n; {
			m := min(r.Intn(140), n-done)
			if s.Write(b[done:done+m]) != s {
				t.Fatal("another sum")
			}
			done += m
			if s.Len() != uint64(done) || s.End() != sha.Of(b[:done]) || s.End() != sha.Of(b[:done]) {
				t.Fatal(n, done)
			}
		}
		if s.End() != api.Hash(sha256.Sum256(b)) || s.Len() != uint64(n) {
			t.Error(n)
		}
	}
}

// P4.2
func TestCopy(t *testing.T) {
	s := sha.New().Write([]byte("some"))
	c := s.Copy()
	s.Write([]byte(" more"))
	c.Write([]byte("thing"))
	if s.End() != sha.Of([]byte("some more")) || c.End() != sha.Of([]byte("something")) || s.Len() != 9 || c.Len() != 9 {
		t.Error(s.Len(), c.Len())
	}
	if sha.New().Len() != 0 || sha.New().End() != sha.Of(nil) || sha.New().Copy().End() != sha.Of(nil) {
		t.Error("empty")
	}
}

// P4.2
func TestNone(t *testing.T) {
	for _, s := range []*sha.Sum{nil, new(sha.Sum)} {
		if s.Write([]byte("a")) != nil || s.Copy() != nil || s.Len() != 0 || s.End() != (api.Hash{}) {
			t.Error(s)
		}
	}
}

// P4.3
func TestApart(t *testing.T) {
	b := counted(100)
	s := sha.New().Write(b)
	b[70], b[3] = 99, 99
	if s.End() != sha.Of(counted(100)) {
		t.Error("retained")
	}
	sha.Of(b)
	sha.Short(b)[0]++
	if b[70] != 99 || !slices.Equal(b[71:], counted(100)[71:]) {
		t.Error("written to")
	}
	square, cube := sha.Roots()
	square[0], cube[0] = 0, 0
	if again, too := sha.Roots(); again[0] == 0 || too[0] == 0 || sha.Of(nil)[0] != 0xe3 {
		t.Error("tables shared")
	}
}
