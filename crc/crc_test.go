package crc_test

import (
	"bytes"
	"hash/crc32"
	"math/rand"
	"testing"

	"purser/api"
	"purser/crc"
)

func counted(n int, down bool) []byte {
	b := make([]byte, n)
	for i := range b {
		b[i] = byte(i)
		if down {
			b[i] = byte(n - 1 - i)
		}
	}
	return b
}

// bitwise is the checksum as the document tells it, bit by bit.
func bitwise(b []byte) uint32 {
	register := ^uint32(0)
	for _, x := range b {
		for i := range 8 {
			feedback := register&1 ^ uint32(x>>i)&1
			register >>= 1
			if feedback == 1 {
				register ^= 0x82F63B78
			}
		}
	}
	return ^register
}

// P2.1
func TestPublished(t *testing.T) {
	for _, x := range []struct {
		b   []byte
		sum uint32
	}{
		{[]byte("123456789"), 0xE3069283}, {nil, 0}, {make([]byte, 32), 0x8A9136AA},
		{bytes.Repeat([]byte{255}, 32), 0x62A8AB43}, {counted(32, false), 0x46DD794E}, {counted(32, true), 0x113FDB5C},
	} {
		if got := crc.Sum(x.b); got != x.sum {
			t.Errorf("% x: %08X, not %08X", x.b, got, x.sum)
		}
	}
	if crc.Sum() != 0 || crc.Sum(nil, nil) != 0 {
		t.Error("no bytes")
	}
}

// P2.1
func TestSumAndOn(t *testing.T) {
	table := crc32.MakeTable(crc32.Castagnoli)
	r := rand.New(rand.NewSource(2))
	for n := range 300 {
		b := make([]byte, n)
		r.Read(b)
		want := bitwise(b)
		if want != crc32.Checksum(b, table) {
			t.Fatal("the test's own sum")
		}
		i, j := r.Intn(n+1), r.Intn(n+1)
		if i > j {
			i, j = j, i
		}
		if crc.Sum(b) != want || crc.Sum(b[:i], b[i:j], nil, b[j:]) != want || crc.On(crc.Sum(b[:i]), b[i:]) != want {
			t.Error(n, i, j)
		}
		if crc.On(want, nil) != want || crc.On(0, b) != want {
			t.Error(n)
		}
	}
}

// P2.2
func TestMark(t *testing.T) {
	if got := crc.Mark([]byte("123456789")); !bytes.Equal(got, []byte("123456789\x83\x92\x06\xE3")) {
		t.Errorf("% x", got)
	}
	if got := crc.Mark(nil); !bytes.Equal(got, make([]byte, 4)) {
		t.Errorf("% x", got)
	}
	for _, s := range []string{"", "a", "ab", "123456789"} {
		if b, e := crc.Bare(crc.Mark([]byte(s))); string(b) != s || e != api.OK {
			t.Error(s, b, e)
		}
	}
	for _, b := range [][]byte{nil, {0}, {0, 0, 0}, {0, 0, 0, 1}, {0, 0, 0, 0, 0}, []byte("123456789\xE3\x06\x92\x83")} {
		if got, e := crc.Bare(b); got != nil || e != api.ErrSum {
			t.Error(b, got, e)
		}
	}
}

// P2.3
func TestApart(t *testing.T) {
	b := append(make([]byte, 0, 64), "some bytes"...)
	m := crc.Mark(b)
	if !bytes.Equal(b[:cap(b)][len(b):], make([]byte, 64-len(b))) {
		t.Error("wrote behind its argument")
	}
	bare, _ := crc.Bare(m)
	before := bytes.Clone(m)
	bare[0] = 'X'
	_ = append(bare, "overwritten"...)
	if !bytes.Equal(m, before) || string(b) != "some bytes" {
		t.Error(m, b)
	}
	m[0] = 'Y'
	if string(b) != "some bytes" || bare[0] != 'X' {
		t.Error(b, bare)
	}
}

// P2.4
func TestBursts(t *testing.T) {
	marked := crc.Mark([]byte("any bytes"))
	r := rand.New(rand.NewSource(4))
	for first := range 8 * len(marked) {
		for try := range 40 {
			b := bytes.Clone(marked)
			pattern := r.Uint32() | 1
			switch try {
			case 0:
				pattern = 1
			case 1:
				pattern = 0xFFFFFFFF
			}
			for i := range 32 {
				if at := first + i; pattern>>i&1 == 1 && at < 8*len(b) {
					b[at/8] ^= 1 << (at % 8)
				}
			}
			if got, e := crc.Bare(b); e != api.ErrSum || got != nil {
				t.Fatal(first, pattern, got, e)
			}
		}
	}
}
