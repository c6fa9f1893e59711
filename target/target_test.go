package target_test

import (
	"math/big"
	"math/rand"
	"testing"

	"purser/api"
	"purser/target"
	"purser/wide"
)

func whole(a api.Wide) *big.Int {
	b := new(big.Int)
	for i := 3; i >= 0; i-- {
		b.Lsh(b, 64).Add(b, new(big.Int).SetUint64(a[i]))
	}
	return b
}

func two(n uint) *big.Int { return new(big.Int).Lsh(big.NewInt(1), n) }

// represented is the number that a compact target represents, as the document tells it.
func represented(c uint32) *big.Int {
	size, mantissa := uint(c>>24), big.NewInt(int64(c&0x7FFFFF))
	if size < 3 {
		return mantissa.Rsh(mantissa, 8*(3-size))
	}
	return mantissa.Lsh(mantissa, 8*(size-3))
}

// form is the compact form of a number, as the document tells it.
func form(n *big.Int) uint32 {
	b := n.Bytes()
	size := len(b)
	for len(b) < 3 {
		b = append(b, 0)
	}
	mantissa := uint32(b[0])<<16 | uint32(b[1])<<8 | uint32(b[2])
	if mantissa&0x800000 != 0 {
		size++
		mantissa >>= 8
	}
	return uint32(size)<<24 | mantissa
}

func valid(c uint32) bool {
	n := represented(c)
	return c&0x800000 == 0 && n.Sign() > 0 && n.BitLen() <= 256 && form(n) == c
}

func numbers() []api.Wide {
	all := ^uint64(0)
	l := []api.Wide{{}, {1}, {2}, {127}, {128}, {255}, {256}, {32767}, {32768}, {1 << 23}, {1<<23 - 1}, {1 << 24}, {all}, {0, 1}, {0, 0, 0, 1 << 63}, {0, 0, 0, 0x80 << 56}, {0, 0, 0, 0x7F << 56}, {all, all, all, all}, {all - 1, all, all, all}, {all, all, all, all >> 1}}
	r := rand.New(rand.NewSource(5))
	for range 200 {
		l = append(l, wide.Right(api.Wide{r.Uint64(), r.Uint64(), r.Uint64(), r.Uint64()}, r.Intn(256)))
	}
	return l
}

// P5.1
func TestExpand(t *testing.T) {
	for c, want := range map[uint32]api.Wide{0x1D00FFFF: wide.Left(wide.Of(0xFFFF), 208), 0x04123456: wide.Of(0x12345600), 0x207FFFFF: wide.Left(wide.Of(0x7FFFFF), 232), 0x01010000: wide.Of(1), 0x2100FFFF: wide.Left(wide.Of(0xFFFF), 240)} {
		if got, e := target.Expand(c); got != want || e != api.OK {
			t.Errorf("%08X: %v, error %d", c, got, e)
		}
	}
	for _, c := range []uint32{0, 0x04923456, 0x01003456, 0x01123456, 0x00123456, 0x02000080, 0x03000000, 0x0300FFFF >> 8, 0x03800000, 0x21010000, 0x2101FFFF, 0x2200FFFF, 0x22000100, 0x23000001, 0xFF123456, 0x20007FFF, 0xFF7FFFFF} {
		if got, e := target.Expand(c); got != (api.Wide{}) || e != api.ErrTarget {
			t.Errorf("%08X: %v, error %d", c, got, e)
		}
	}
}

// P5.1, P5.5
func TestExpandAll(t *testing.T) {
	r := rand.New(rand.NewSource(51))
	for size := range uint32(256) {
		for try := range uint32(200) {
			mantissa := r.Uint32() & 0xFFFFFF
			switch {
			case try < 24:
				mantissa = 1 << try
			case try < 48:
				mantissa = 1<<(try-24) - 1
			case try < 90:
				mantissa &= 0x7F0000
			case try < 120:
				mantissa &= 0x7FFF00
			}
			c := size<<24 | mantissa
			got, e := target.Expand(c)
			if !valid(c) {
				if e != api.ErrTarget || got != (api.Wide{}) {
					t.Fatalf("%08X: %v, error %d", c, got, e)
				}
				continue
			}
			if e != api.OK || whole(got).Cmp(represented(c)) != 0 {
				t.Fatalf("%08X: %v, error %d", c, got, e)
			}
			if back, e := target.Compact(got); back != c || e != api.OK {
				t.Fatalf("%08X: back %08X, error %d", c, back, e)
			}
		}
	}
}

// P5.1, P5.5
func TestCompact(t *testing.T) {
	if c, e := target.Compact(api.Wide{}); c != 0 || e != api.ErrTarget {
		t.Error(c, e)
	}
	for want, n := range map[uint32]api.Wide{0x01010000: {1}, 0x02008000: {128}, 0x21008000: wide.Left(wide.Of(0x80), 248), 0x2100FFFF: wide.Not(wide.Of(0))} {
		if c, e := target.Compact(n); c != want || e != api.OK {
			t.Errorf("%v: %08X, error %d", n, c, e)
		}
	}
	for _, n := range numbers()[1:] {
		c, e := target.Compact(n)
		if e != api.OK || c != form(whole(n)) || !valid(c) || represented(c).Cmp(whole(n)) > 0 {
			t.Errorf("%v: %08X, error %d", n, c, e)
		}
		if next := c + 1; represented(next).Cmp(whole(n)) <= 0 && c>>24 >= 3 && next&0x800000 == 0 {
			t.Errorf("%v: %08X is not the greatest", n, c)
		}
	}
}

// P5.2, P5.5
func TestWork(t *testing.T) {
	if w, e := target.Work(api.Wide{}); w != (api.Wide{}) || e != api.ErrTarget {
		t.Error(w, e)
	}
	for c, want := range map[uint32]uint64{0x1D00FFFF: 4295032833, 0x207FFFFF: 2} {
		n, _ := target.Expand(c)
		if w, e := target.Work(n); w != wide.Of(want) || e != api.OK {
			t.Error(c, w, e)
		}
	}
	for _, n := range numbers()[1:] {
		want := new(big.Int).Add(whole(n), big.NewInt(1))
		want.Quo(two(256), want)
		w, e := target.Work(n)
		if whole(w).Cmp(want) != 0 || e != api.OK {
			t.Error(n, w, e)
		}
		for _, m := range numbers()[1:20] {
			if v, _ := target.Work(m); wide.Compare(m, n) > 0 && wide.Compare(v, w) > 0 {
				t.Error(m, n)
			}
		}
	}
}

// P5.2
func TestSum(t *testing.T) {
	most := wide.Not(wide.Of(0))
	half := wide.Left(wide.Of(1), 255)
	for i, x := range []struct{ got, want api.Wide }{
		{target.Sum(), api.Wide{}}, {target.Sum(wide.Of(7)), wide.Of(7)}, {target.Sum(wide.Of(1), wide.Of(2), wide.Of(3)), wide.Of(6)},
		{target.Sum(most), most}, {target.Sum(most, wide.Of(1)), most}, {target.Sum(most, most, wide.Of(5)), most},
		{target.Sum(half, half), most}, {target.Sum(half, half, wide.Of(9)), most}, {target.Sum(half, wide.Right(most, 1)), most},
		{target.Sum(wide.Of(1<<63), wide.Of(1<<63)), api.Wide{0, 1}},
	} {
		if x.got != x.want {
			t.Error(i, x.got, x.want)
		}
	}
}

// P5.2
func TestBelow(t *testing.T) {
	h := api.Hash{5, 1}
	if !target.Below(h, wide.Of(0x105)) || target.Below(h, wide.Of(0x104)) || !target.Below(h, wide.Of(0x106)) || !target.Below(api.Hash{}, api.Wide{}) {
		t.Error("small")
	}
	top := api.Hash{31: 0x80}
	if !target.Below(top, wide.Left(wide.Of(1), 255)) || target.Below(top, wide.Not(wide.Left(wide.Of(1), 255))) {
		t.Error("great")
	}
}

// P5.3
func TestScale(t *testing.T) {
	one, most := wide.Of(1), wide.Not(wide.Of(0))
	bad := []struct {
		t        api.Wide
		by, of   uint64
		greatest api.Wide
	}{{api.Wide{}, 1, 1, one}, {one, 0, 1, one}, {one, 1, 0, one}, {one, 1, 1, api.Wide{}}, {one, 1<<40 + 1, 1, one}, {one, 1, 1<<40 + 1, one}, {one, 1 << 63, 1, one}}
	for _, x := range bad {
		if got, e := target.Scale(x.t, x.by, x.of, x.greatest); got != (api.Wide{}) || e != api.ErrTarget {
			t.Error(x, got, e)
		}
	}
	factors := []uint64{1, 2, 3, 4, 7, 1000, 1 << 31, 1<<40 - 1, 1 << 40}
	for _, n := range numbers()[1:60] {
		for _, greatest := range []api.Wide{one, wide.Of(1000), wide.Left(one, 200), most} {
			for _, by := range factors {
				for _, of := range factors {
					want := new(big.Int).Mul(whole(n), new(big.Int).SetUint64(by))
					want.Quo(want, new(big.Int).SetUint64(of))
					if want.Sign() == 0 {
						want = big.NewInt(1)
					}
					if want.Cmp(whole(greatest)) > 0 {
						want = whole(greatest)
					}
					if got, e := target.Scale(n, by, of, greatest); e != api.OK || whole(got).Cmp(want) != 0 {
						t.Fatal(n, by, of, greatest, got, e)
					}
				}
			}
		}
	}
}

// P5.4
func TestApart(t *testing.T) {
	works := []api.Wide{{1}, {2}}
	target.Sum(works...)
	if works[0] != (api.Wide{1}) || works[1] != (api.Wide{2}) {
		t.Error(works)
	}
}
