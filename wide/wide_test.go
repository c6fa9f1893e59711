package wide_test

import (
	"bytes"
	"math/big"
	"math/rand"
	"slices"
	"strings"
	"testing"

	"purser/api"
	"purser/wide"
)

func whole(a api.Wide) *big.Int {
	b := new(big.Int)
	for i := 3; i >= 0; i-- {
		b.Lsh(b, 64).Add(b, new(big.Int).SetUint64(a[i]))
	}
	return b
}

func two(n uint) *big.Int { return new(big.Int).Lsh(big.NewInt(1), n) }

func modulo(b *big.Int) *big.Int { return new(big.Int).Mod(b, two(256)) }

// numbers are edges, and random numbers of all lengths.
func numbers() []api.Wide {
	all := ^uint64(0)
	l := []api.Wide{{}, {1}, {2}, {3}, {7}, {100}, {all}, {0, 1}, {all, all}, {0, 0, 1}, {all, all, all}, {0, 0, 0, 1}, {0, 0, 0, 1 << 63}, {1, 0, 0, 1 << 63}, {all, all, all, all >> 1}, {all, all, all, all}, {all - 1, all, all, all}, {0, all, 0, all}}
	r := rand.New(rand.NewSource(3))
	for i := range 40 {
		a := api.Wide{r.Uint64(), r.Uint64(), r.Uint64(), r.Uint64()}
		for j := range 4 {
			if j > i%4 {
				a[j] = 0
			} else if j == i%4 {
				a[j] >>= r.Intn(64)
			}
		}
		l = append(l, a)
	}
	return l
}

// P3.1
func TestBytesAndDigits(t *testing.T) {
	for _, n := range []uint64{0, 1, 255, 1<<64 - 1} {
		if wide.Of(n) != (api.Wide{n}) {
			t.Error(n)
		}
	}
	if got := wide.Digits(wide.Of(255)); got != strings.Repeat("0", 62)+"ff" {
		t.Error(got)
	}
	a := api.Wide{0x0706050403020100, 0x0F0E0D0C0B0A0908, 0x1716151413121110, 0x1F1E1D1C1B1A1918}
	if got := wide.Digits(a); got != "1f1e1d1c1b1a191817161514131211100f0e0d0c0b0a09080706050403020100" {
		t.Error(got)
	}
	for i, b := range wide.Bytes(a) {
		if int(b) != i {
			t.Error(i, b)
		}
	}
	for _, n := range []int{0, 1, 31, 33, 64} {
		if got, e := wide.Read(bytes.Repeat([]byte{1}, n)); got != (api.Wide{}) || e != api.ErrWide {
			t.Error(n, got, e)
		}
	}
	good := wide.Digits(a)
	for _, s := range []string{"", good[1:], good + "0", "F" + good[1:], "g" + good[1:], good[:63] + " ", "+" + good[1:], good[:62] + "é", "0x" + good[2:], "_" + good[1:], good[:63] + "G", "/" + good[1:], ":" + good[1:], "`" + good[1:]} {
		if got, e := wide.Parse(s); got != (api.Wide{}) || e != api.ErrWide {
			t.Error(s, got, e)
		}
	}
}

// P3.1, P3.7
func TestThereAndBack(t *testing.T) {
	for _, a := range numbers() {
		b, d := wide.Bytes(a), wide.Digits(a)
		want := slices.Clone(b)
		slices.Reverse(want)
		if len(b) != 32 || len(d) != 64 || new(big.Int).SetBytes(want).Cmp(whole(a)) != 0 {
			t.Error(a, b, d)
		}
		if n, ok := new(big.Int).SetString(d, 16); !ok || n.Cmp(whole(a)) != 0 || strings.ToLower(d) != d {
			t.Error(a, d)
		}
		if got, e := wide.Read(b); got != a || e != api.OK {
			t.Error(a, got, e)
		}
		if got, e := wide.Parse(d); got != a || e != api.OK {
			t.Error(a, got, e)
		}
	}
}

// P3.2
func TestCompareAndLen(t *testing.T) {
	for _, a := range numbers() {
		if wide.Len(a) != whole(a).BitLen() {
			t.Error(a, wide.Len(a))
		}
		for _, b := range numbers() {
			if wide.Compare(a, b) != whole(a).Cmp(whole(b)) {
				t.Error(a, b, wide.Compare(a, b))
			}
		}
	}
	if wide.Len(wide.Of(0)) != 0 || wide.Len(wide.Left(wide.Of(1), 255)) != 256 {
		t.Error("Len")
	}
}

// P3.3, P3.7
func TestSumsAndProducts(t *testing.T) {
	for _, a := range numbers() {
		for _, b := range numbers() {
			sum := new(big.Int).Add(whole(a), whole(b))
			if got, over := wide.Add(a, b); whole(got).Cmp(modulo(sum)) != 0 || over != (sum.BitLen() > 256) {
				t.Error(a, b, got, over)
			} else if back, under := wide.Sub(got, b); back != a || under != over {
				t.Error(a, b, back, under)
			}
			less := new(big.Int).Sub(whole(a), whole(b))
			if got, under := wide.Sub(a, b); whole(got).Cmp(modulo(less)) != 0 || under != (less.Sign() < 0) {
				t.Error(a, b, got, under)
			}
			low, high := wide.Mul(a, b)
			product := new(big.Int).Add(whole(low), new(big.Int).Lsh(whole(high), 256))
			if product.Cmp(new(big.Int).Mul(whole(a), whole(b))) != 0 {
				t.Error(a, b, low, high)
			}
		}
	}
	most := wide.Not(wide.Of(0))
	if got, over := wide.Add(most, wide.Of(1)); got != (api.Wide{}) || !over {
		t.Error(got, over)
	}
	if got, under := wide.Sub(wide.Of(0), wide.Of(1)); got != most || !under {
		t.Error(got, under)
	}
	half := wide.Left(wide.Of(1), 128)
	if low, high := wide.Mul(half, half); low != (api.Wide{}) || high != wide.Of(1) {
		t.Error(low, high)
	}
}

// P3.4, P3.7
func TestDiv(t *testing.T) {
	for _, a := range numbers() {
		for _, b := range numbers() {
			q, r, e := wide.Div(a, b)
			if b == (api.Wide{}) {
				if q != b || r != b || e != api.ErrWide {
					t.Error(a, q, r, e)
				}
				continue
			}
			wantQ, wantR := new(big.Int).QuoRem(whole(a), whole(b), new(big.Int))
			if e != api.OK || whole(q).Cmp(wantQ) != 0 || whole(r).Cmp(wantR) != 0 {
				t.Error(a, b, q, r, e)
			}
		}
	}
	if q, r, e := wide.Div(wide.Of(100), wide.Of(7)); q != wide.Of(14) || r != wide.Of(2) || e != api.OK {
		t.Error(q, r, e)
	}
}

// P3.5, P3.7
func TestShifts(t *testing.T) {
	for _, a := range numbers() {
		for n := range 300 {
			if got := wide.Left(a, n); whole(got).Cmp(modulo(new(big.Int).Lsh(whole(a), uint(n)))) != 0 {
				t.Error(a, n, got)
			}
			if got := wide.Right(a, n); whole(got).Cmp(new(big.Int).Rsh(whole(a), uint(n))) != 0 {
				t.Error(a, n, got)
			}
		}
		for _, n := range []int{-1, -64, -256, -1 << 63} {
			if wide.Left(a, n) != a || wide.Right(a, n) != a {
				t.Error(a, n)
			}
		}
		for _, n := range []int{256, 257, 512, 1<<63 - 1} {
			if wide.Left(a, n) != (api.Wide{}) || wide.Right(a, n) != (api.Wide{}) {
				t.Error(a, n)
			}
		}
		all := new(big.Int).Sub(two(256), big.NewInt(1))
		if whole(wide.Not(a)).Cmp(all.Sub(all, whole(a))) != 0 {
			t.Error(a, wide.Not(a))
		}
	}
}

// P3.6
func TestApart(t *testing.T) {
	b := bytes.Repeat([]byte{9}, 32)
	a, _ := wide.Read(b)
	b[0] = 1
	got := wide.Bytes(a)
	got[1] = 2
	if wide.Bytes(a)[0] != 9 || wide.Bytes(a)[1] != 9 || b[1] != 9 {
		t.Error(a, b, got)
	}
}
