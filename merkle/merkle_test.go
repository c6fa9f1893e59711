package merkle_test

import (
	"crypto/sha256"
	"slices"
	"testing"

	"purser/api"
	"purser/merkle"
)

func twice(a, b api.Hash) api.Hash {
	once := sha256.Sum256(append(slices.Clone(a[:]), b[:]...))
	return sha256.Sum256(once[:])
}

func list(n int) []api.Hash {
	l := make([]api.Hash, n)
	for i := range l {
		l[i] = api.Hash{byte(i), byte(i >> 8), 7}
	}
	return l
}

// above is the level above one, as the document tells it.
func above(l []api.Hash) []api.Hash {
	var m []api.Hash
	for i := 0; i < len(l); i += 2 {
		other := l[i]
		if i+1 < len(l) {
			other = l[i+1]
		}
		m = append(m, twice(l[i], other))
	}
	return m
}

// P8.1
func TestRoot(t *testing.T) {
	l := list(3)
	a, b, c := l[0], l[1], l[2]
	for i, x := range []struct {
		l    []api.Hash
		want api.Hash
	}{{l[:1], a}, {l[:2], twice(a, b)}, {l, twice(twice(a, b), twice(c, c))}} {
		if got, e := merkle.Root(x.l); got != x.want || e != api.OK {
			t.Error(i, got, e)
		}
	}
	for _, none := range [][]api.Hash{nil, {}} {
		if got, e := merkle.Root(none); got != (api.Hash{}) || e != api.ErrMerkle {
			t.Error(got, e)
		}
	}
	for n := 1; n < 130; n++ {
		level, depth := list(n), 0
		for len(level) > 1 {
			level = above(level)
			depth++
		}
		if got, e := merkle.Root(list(n)); got != level[0] || e != api.OK || merkle.Depth(n) != depth {
			t.Error(n, got, e, merkle.Depth(n))
		}
	}
}

// P8.1
func TestDepth(t *testing.T) {
	for n, want := range map[int]int{-1 << 63: 0, -5: 0, 0: 0, 1: 0, 2: 1, 3: 2, 4: 2, 5: 3, 8: 3, 9: 4, 1 << 30: 30, 1<<30 + 1: 31, 1<<63 - 1: 63} {
		if got := merkle.Depth(n); got != want {
			t.Error(n, got, want)
		}
	}
}

// P8.1, P8.4
func TestSwollen(t *testing.T) {
	for n := range 70 {
		l := list(n)
		if merkle.Swollen(l) {
			t.Error(n)
		}
		if n%2 == 0 || n < 3 {
			continue
		}
		longer := append(slices.Clone(l), l[n-1])
		a, _ := merkle.Root(l)
		b, _ := merkle.Root(longer)
		if a != b || !merkle.Swollen(longer) {
			t.Error(n)
		}
	}
	l := list(8)
	a, b, c, d, e, f := l[0], l[1], l[2], l[3], l[4], l[5]
	for i, x := range []struct {
		l    []api.Hash
		want bool
	}{
		{[]api.Hash{a, b, c, c}, true}, {[]api.Hash{a, a}, true}, {[]api.Hash{a, a, b}, true}, {[]api.Hash{a, b, b, c}, false}, {[]api.Hash{a, b, a}, false},
		{[]api.Hash{a, b, a, b}, true}, {[]api.Hash{a, b, c, d, e, f, e, f}, true}, {[]api.Hash{a, b, c, d, c, d}, false}, {[]api.Hash{a, b, c, d, e, f, f}, false},
		{[]api.Hash{a, b, c, d, a, b, c, d}, true}, {[]api.Hash{a}, false}, {[]api.Hash{a, b, c, c, d}, true}, {[]api.Hash{c, d, a, b, a, b}, false},
	} {
		if merkle.Swollen(x.l) != x.want {
			t.Error(i)
		}
	}
}

// P8.2, P8.4
func TestBranchAndFold(t *testing.T) {
	l := list(3)
	if branch, e := merkle.Branch(l, 2); e != api.OK || !slices.Equal(branch, []api.Hash{l[2], twice(l[0], l[1])}) {
		t.Error(branch, e)
	}
	for n := range 40 {
		l := list(n)
		root, _ := merkle.Root(l)
		for i := range l {
			branch, e := merkle.Branch(l, i)
			if e != api.OK || len(branch) != merkle.Depth(n) {
				t.Error(n, i, e)
			}
			if got, e := merkle.Fold(l[i], i, branch); got != root || e != api.OK {
				t.Error(n, i, got, e)
			}
		}
		for _, i := range []int{-1, n, n + 1, -1 << 63} {
			if branch, e := merkle.Branch(l, i); branch != nil || e != api.ErrMerkle {
				t.Error(n, i, branch, e)
			}
		}
	}
}

// P8.2
func TestFold(t *testing.T) {
	l := list(40)
	a, b, c := l[0], l[1], l[2]
	for i, want := range []api.Hash{twice(twice(a, b), c), twice(twice(b, a), c), twice(c, twice(a, b)), twice(c, twice(b, a))} {
		if got, e := merkle.Fold(a, i, []api.Hash{b, c}); got != want || e != api.OK {
			t.Error(i, got, e)
		}
	}
	if got, e := merkle.Fold(a, 0, nil); got != a || e != api.OK {
		t.Error(got, e)
	}
	if _, e := merkle.Fold(a, 1<<30-1, l[:30]); e != api.OK {
		t.Error(e)
	}
	for i, x := range []struct{ n, length int }{{1, 0}, {-1, 3}, {8, 3}, {4, 2}, {0, 31}, {5, 40}, {1 << 30, 30}} {
		if got, e := merkle.Fold(a, x.n, l[:x.length]); got != (api.Hash{}) || e != api.ErrMerkle {
			t.Error(i, got, e)
		}
	}
}

// P8.3
func TestApart(t *testing.T) {
	l := list(5)
	branch, _ := merkle.Branch(l, 4)
	merkle.Root(l)
	merkle.Swollen(l)
	merkle.Fold(l[0], 3, l)
	branch[0][0]++
	if !slices.Equal(l, list(5)) {
		t.Error("changed")
	}
}
