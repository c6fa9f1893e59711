package num_test

import (
	"bytes"
	"math/rand"
	"testing"

	"purser/api"
	"purser/num"
)

const most = 1<<31 - 1

func known() map[int64][]byte {
	return map[int64][]byte{
		0: nil, 1: {1}, -1: {0x81}, 127: {0x7F}, -127: {0xFF}, 128: {0x80, 0}, -128: {0x80, 0x80}, 255: {0xFF, 0}, -255: {0xFF, 0x80}, 256: {0, 1}, -256: {0, 0x81},
		32767: {0xFF, 0x7F}, 32768: {0, 0x80, 0}, -32768: {0, 0x80, 0x80}, 1<<23 - 1: {0xFF, 0xFF, 0x7F}, 1 << 23: {0, 0, 0x80, 0}, most: {0xFF, 0xFF, 0xFF, 0x7F}, -most: {0xFF, 0xFF, 0xFF, 0xFF},
	}
}

func numbers() []int64 {
	l := []int64{0, 1, 2, 3, 126, 127, 128, 129, 255, 256, 257, 32767, 32768, 65535, 65536, 1<<23 - 1, 1 << 23, 1<<24 - 1, 1 << 24, most - 1, most}
	r := rand.New(rand.NewSource(11))
	for range 40 {
		l = append(l, r.Int63n(most)>>r.Intn(31))
	}
	for _, n := range l {
		l = append(l, -n)
	}
	return l
}

// P11.1
func TestEncode(t *testing.T) {
	for n, want := range known() {
		if b, e := num.Encode(n); !bytes.Equal(b, want) || e != api.OK {
			t.Errorf("%d: % x, error %d", n, b, e)
		}
	}
	for n, want := range map[int64][]byte{1 << 31: {0, 0, 0, 0x80, 0}, -1 << 31: {0, 0, 0, 0x80, 0x80}, 1<<32 - 2: {0xFE, 0xFF, 0xFF, 0xFF, 0}, 1<<39 - 1: {0xFF, 0xFF, 0xFF, 0xFF, 0x7F}, -1<<39 + 1: {0xFF, 0xFF, 0xFF, 0xFF, 0xFF}} {
		if b, e := num.Encode(n); !bytes.Equal(b, want) || e != api.OK {
			t.Errorf("%d: % x, error %d", n, b, e)
		}
		if back, e := num.Decode(want); back != 0 || e != api.ErrNum {
			t.Error(want, back, e)
		}
	}
	for _, n := range []int64{1 << 39, -1 << 39, 1<<63 - 1, -1 << 63} {
		if b, e := num.Encode(n); b != nil || e != api.ErrNum {
			t.Error(n, b, e)
		}
	}
}

// P11.1
func TestDecode(t *testing.T) {
	for want, b := range known() {
		if n, e := num.Decode(b); n != want || e != api.OK {
			t.Error(b, n, e)
		}
	}
	for _, b := range [][]byte{{0}, {0x80}, {1, 0}, {1, 0x80}, {0, 0}, {0, 0x80}, {0x7F, 0}, {0xFF, 0x7F, 0}, {0xFF, 0x7F, 0x80}, {0, 0, 0, 0, 1}, {0, 0, 0, 0}, {0, 0, 0, 0x80}, {1, 2, 3, 4, 5}, {0xFF, 0xFF, 0x7F, 0}, {0, 0, 0, 0x80, 0}} {
		if n, e := num.Decode(b); n != 0 || e != api.ErrNum {
			t.Error(b, n, e)
		}
	}
}

// P11.1, P11.4
func TestThereAndBack(t *testing.T) {
	for _, n := range numbers() {
		b, _ := num.Encode(n)
		if back, e := num.Decode(b); back != n || e != api.OK {
			t.Error(n, back, e)
		}
		if num.True(b) != (n != 0) {
			t.Error(n)
		}
	}
	r := rand.New(rand.NewSource(12))
	edges := []byte{0, 1, 0x7F, 0x80, 0x81, 0xFF}
	for range 20000 {
		b := make([]byte, r.Intn(6))
		for i := range b {
			b[i] = edges[r.Intn(len(edges))]
		}
		n, e := num.Decode(b)
		if e == api.OK {
			if back, _ := num.Encode(n); !bytes.Equal(back, b) || num.True(b) != (n != 0) {
				t.Fatal(b, n)
			}
		} else if len(b) <= 4 {
			if b[len(b)-1]&0x7F != 0 || len(b) > 1 && b[len(b)-2]&0x80 != 0 {
				t.Fatal(b, e)
			}
		}
	}
}

// P11.1
func TestTrueAndFlag(t *testing.T) {
	for _, b := range [][]byte{nil, {0}, {0x80}, {0, 0}, {0, 0x80}, {0, 0, 0, 0, 0, 0}, {0, 0, 0, 0, 0, 0x80}} {
		if num.True(b) {
			t.Error(b)
		}
	}
	for _, b := range [][]byte{{1}, {0x81}, {0x80, 0}, {0x80, 0x80}, {0, 1}, {1, 0}, {0, 0, 0, 0, 1}, {0, 0x80, 0}, {0x40}, {0, 0x40}} {
		if !num.True(b) {
			t.Error(b)
		}
	}
	if !bytes.Equal(num.Flag(true), []byte{1}) || len(num.Flag(false)) != 0 {
		t.Error(num.Flag(true), num.Flag(false))
	}
}

func flag(is bool) int64 {
	if is {
		return 1
	}
	return 0
}

func one(code byte, n int64) (int64, bool) {
	switch code {
	case 0x8B:
		return n + 1, true
	case 0x8C:
		return n - 1, true
	case 0x8F:
		return -n, true
	case 0x90:
		if n < 0 {
			return -n, true
		}
		return n, true
	case 0x91:
		return flag(n == 0), true
	case 0x92:
		return flag(n != 0), true
	}
	return 0, false
}

func two(code byte, a, b int64) (int64, bool) {
	switch code {
	case 0x93:
		return a + b, true
	case 0x94:
		return a - b, true
	case 0x9A:
		return flag(a != 0 && b != 0), true
	case 0x9B:
		return flag(a != 0 || b != 0), true
	case 0x9C, 0x9D:
		return flag(a == b), true
	case 0x9E:
		return flag(a != b), true
	case 0x9F:
		return flag(a < b), true
	case 0xA0:
		return flag(a > b), true
	case 0xA1:
		return flag(a <= b), true
	case 0xA2:
		return flag(a >= b), true
	case 0xA3:
		return min(a, b), true
	case 0xA4:
		return max(a, b), true
	}
	return 0, false
}

// P11.2
func TestOperations(t *testing.T) {
	outside := []int64{most + 1, -most - 1, 1 << 40, -1 << 63, 1<<63 - 1}
	for code := range 256 {
		c := byte(code)
		arity := 0
		for _, a := range numbers() {
			want, is := one(c, a)
			got, e := num.One(c, a)
			if is && (got != want || e != api.OK) || !is && (got != 0 || e != api.ErrArg) {
				t.Fatal(code, a, got, e)
			}
			if is {
				arity = 1
			}
			for _, b := range numbers() {
				want, is := two(c, a, b)
				got, e := num.Two(c, a, b)
				if is && (got != want || e != api.OK) || !is && (got != 0 || e != api.ErrArg) {
					t.Fatal(code, a, b, got, e)
				}
				if is {
					arity = 2
				}
			}
		}
		for _, n := range outside {
			a, e := num.One(c, n)
			b, f := num.Two(c, n, 1)
			d, g := num.Two(c, 1, n)
			if a+b+d != 0 || (e == api.ErrNum) != (arity == 1) || (f == api.ErrNum) != (arity == 2) || g != f || e == api.OK || f == api.OK {
				t.Error(code, n, e, f, g)
			}
		}
		if c == 0xA5 {
			arity = 3
		}
		if num.Arity(c) != arity {
			t.Error(code, num.Arity(c))
		}
	}
}

// P11.4
func TestOneRelation(t *testing.T) {
	for _, a := range numbers() {
		for _, b := range numbers() {
			less, _ := num.Two(api.OpLess, a, b)
			greater, _ := num.Two(api.OpGreater, a, b)
			equal, _ := num.Two(api.OpNumeq, a, b)
			if less+greater+equal != 1 {
				t.Error(a, b)
			}
		}
	}
}

// P11.2
func TestWithin(t *testing.T) {
	for _, x := range []struct {
		n, from, to int64
		want        bool
	}{{5, 5, 6, true}, {5, 5, 5, false}, {5, 4, 5, false}, {4, 5, 6, false}, {5, 6, 4, false}, {-1, -2, 0, true}, {1<<63 - 1, -1 << 63, 1<<63 - 1, false}, {-1 << 63, -1 << 63, 1<<63 - 1, true}, {6, 5, 6, false}, {7, 5, 9, true}} {
		if num.Within(x.n, x.from, x.to) != x.want {
			t.Error(x)
		}
	}
}

// P11.3
func TestApart(t *testing.T) {
	b, _ := num.Encode(300)
	flag := num.Flag(true)
	num.Decode(b)
	num.True(b)
	b[0], flag[0] = 0, 0
	if again, _ := num.Encode(300); !bytes.Equal(again, []byte{0x2C, 1}) || !bytes.Equal(num.Flag(true), []byte{1}) {
		t.Error(again)
	}
}
