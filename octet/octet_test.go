package octet_test

import (
	"bytes"
	"testing"

	"purser/api"
	"purser/octet"
)

// sizes are compact sizes at the edges of their lengths.
func sizes() map[uint64]int {
	return map[uint64]int{
		0: 1, 1: 1, 252: 1, 253: 3, 254: 3, 255: 3, 256: 3, 65535: 3,
		65536: 5, 1<<24 - 1: 5, 1 << 24: 5, 1<<32 - 1: 5, 1 << 32: 9, 1 << 40: 9, 1<<63 + 5: 9, 1<<64 - 1: 9,
	}
}

func wrote(t *testing.T, p *octet.Pen, want ...byte) {
	t.Helper()
	if !bytes.Equal(p.All(), want) || p.Len() != len(want) {
		t.Errorf("wrote % x, of length %d, not % x", p.All(), p.Len(), want)
	}
}

func is(t *testing.T, what string, got, want api.Errno) {
	t.Helper()
	if got != want {
		t.Errorf("%s: error %d, not %d", what, got, want)
	}
}

// P1.1
func TestPenFixed(t *testing.T) {
	var p octet.Pen
	wrote(t, &p)
	is(t, "258 in 4", p.Fixed(4, 258), api.OK)
	wrote(t, &p, 2, 1, 0, 0)
	is(t, "256 in 1", p.Fixed(1, 256), api.ErrOctet)
	is(t, "2^16 in 2", p.Fixed(2, 1<<16), api.ErrOctet)
	is(t, "2^32 in 4", p.Fixed(4, 1<<32), api.ErrOctet)
	for _, size := range []int{-1, 0, 3, 5, 6, 7, 9, 16} {
		is(t, "size", p.Fixed(size, 0), api.ErrArg)
		is(t, "size ahead of number", p.Fixed(size, 1<<63), api.ErrArg)
	}
	wrote(t, &p, 2, 1, 0, 0)
	is(t, "255 in 1", p.Fixed(1, 255), api.OK)
	is(t, "65535 in 2", p.Fixed(2, 65535), api.OK)
	is(t, "2^32 - 1 in 4", p.Fixed(4, 1<<32-1), api.OK)
	is(t, "greatest in 8", p.Fixed(8, 0xF1F2F3F4F5F6F7F8), api.OK)
	wrote(t, &p, 2, 1, 0, 0, 255, 255, 255, 255, 255, 255, 255, 0xF8, 0xF7, 0xF6, 0xF5, 0xF4, 0xF3, 0xF2, 0xF1)
}

// P1.1
func TestPenSizesAndBytes(t *testing.T) {
	var p octet.Pen
	is(t, "252", p.Size(252), api.OK)
	is(t, "253", p.Size(253), api.OK)
	is(t, "65536", p.Size(65536), api.OK)
	wrote(t, &p, 0xFC, 0xFD, 0xFD, 0, 0xFE, 0, 0, 1, 0)
	var q octet.Pen
	is(t, "2^32", q.Size(1<<32), api.OK)
	is(t, "ab", q.Bytes([]byte("ab")), api.OK)
	is(t, "empty", q.Bytes(nil), api.OK)
	is(t, "raw", q.Raw([]byte("c"), nil, []byte("de")), api.OK)
	is(t, "no parts", q.Raw(), api.OK)
	wrote(t, &q, 0xFF, 0, 0, 0, 0, 1, 0, 0, 0, 2, 'a', 'b', 0, 'c', 'd', 'e')
	var r octet.Pen
	r.Bytes(make([]byte, 253))
	if b := r.All(); len(b) != 256 || b[0] != 253 || b[1] != 253 || b[2] != 0 {
		t.Error(len(b), b[:3])
	}
}

// P1.1, P1.2
func TestNone(t *testing.T) {
	var p *octet.Pen
	is(t, "pen's Fixed", p.Fixed(3, 0), api.ErrNil)
	is(t, "pen's Size", p.Size(0), api.ErrNil)
	is(t, "pen's Bytes", p.Bytes(nil), api.ErrNil)
	is(t, "pen's Raw", p.Raw(), api.ErrNil)
	if p.Len() != 0 || p.All() != nil {
		t.Error(p.Len(), p.All())
	}
	for _, e := range []*octet.Eye{nil, new(octet.Eye)} {
		n, a := e.Fixed(3)
		m, b := e.Size()
		s, c := e.Bytes(-1)
		r, d := e.Raw(-1)
		for _, x := range []api.Errno{a, b, c, d, e.End()} {
			is(t, "eye", x, api.ErrNil)
		}
		if n != 0 || m != 0 || s != nil || r != nil || e.Left() != 0 {
			t.Error(n, m, s, r, e.Left())
		}
	}
}

// P1.2
func TestEyeFixed(t *testing.T) {
	e := octet.Look([]byte{1, 2, 3, 4, 5, 6, 7, 8, 9, 10, 11, 12, 13, 14, 15, 16})
	for _, size := range []int{-1, 0, 3, 5, 9} {
		n, got := e.Fixed(size)
		is(t, "size", got, api.ErrArg)
		if n != 0 || e.Left() != 16 {
			t.Error(n, e.Left())
		}
	}
	for _, want := range []struct {
		size int
		n    uint64
		left int
	}{{1, 1, 15}, {2, 0x0302, 13}, {4, 0x07060504, 9}, {8, 0x0F0E0D0C0B0A0908, 1}} {
		if n, got := e.Fixed(want.size); n != want.n || got != api.OK || e.Left() != want.left {
			t.Errorf("%d bytes: %x, error %d, %d left", want.size, n, got, e.Left())
		}
	}
	for _, size := range []int{2, 4, 8} {
		if n, got := e.Fixed(size); n != 0 || got != api.ErrOctet || e.Left() != 1 {
			t.Error(size, n, got, e.Left())
		}
	}
	is(t, "one byte ahead of the end", e.End(), api.ErrOctet)
	if n, got := e.Fixed(1); n != 16 || got != api.OK || e.Left() != 0 || e.End() != api.OK {
		t.Error(n, got, e.Left())
	}
	_, got := octet.Look(nil).Fixed(3)
	is(t, "size ahead of lack", got, api.ErrArg)
}

// P1.2
func TestEyeSize(t *testing.T) {
	for _, b := range [][]byte{
		nil, {253}, {253, 253}, {254, 0, 0, 1}, {255, 0, 0, 0, 0, 1, 0, 0}, {253, 252, 0}, {253, 0, 0},
		{254, 255, 255, 0, 0}, {254, 0, 0, 0, 0}, {255, 255, 255, 255, 255, 0, 0, 0, 0}, {255, 1, 0, 0, 0, 0, 0, 0, 0},
	} {
		e := octet.Look(b)
		if n, got := e.Size(); n != 0 || got != api.ErrOctet || e.Left() != len(b) {
			t.Errorf("% x: %d, error %d, %d left", b, n, got, e.Left())
		}
		if s, got := e.Bytes(1000); s != nil || got != api.ErrOctet || e.Left() != len(b) {
			t.Errorf("string of % x: % x, error %d, %d left", b, s, got, e.Left())
		}
	}
	e := octet.Look([]byte{253, 253, 0, 7})
	if n, got := e.Size(); n != 253 || got != api.OK || e.Left() != 1 {
		t.Error(n, got, e.Left())
	}
}

// P1.2
func TestEyeBytes(t *testing.T) {
	for _, x := range []struct {
		b    []byte
		most int
	}{{[]byte{2, 0x61}, 9}, {[]byte{2, 0x61, 0x62}, 1}, {[]byte{0}, -1}, {[]byte{255, 255, 255, 255, 255, 255, 255, 255, 255, 1}, 1 << 62}} {
		e := octet.Look(x.b)
		if s, got := e.Bytes(x.most); s != nil || got != api.ErrOctet || e.Left() != len(x.b) {
			t.Error(x, s, got, e.Left())
		}
	}
	e := octet.Look([]byte{2, 'a', 'b', 0, 1, 'c'})
	for _, want := range []string{"ab", "", "c"} {
		if s, got := e.Bytes(len(want)); string(s) != want || got != api.OK {
			t.Error(want, s, got)
		}
	}
	is(t, "end", e.End(), api.OK)
}

// P1.2
func TestEyeRaw(t *testing.T) {
	e := octet.Look([]byte("abc"))
	if b, got := e.Raw(-1); b != nil || got != api.ErrArg {
		t.Error(b, got)
	}
	if b, got := e.Raw(4); b != nil || got != api.ErrOctet || e.Left() != 3 {
		t.Error(b, got, e.Left())
	}
	is(t, "end too early", e.End(), api.ErrOctet)
	if b, got := e.Raw(0); len(b) != 0 || got != api.OK || e.Left() != 3 {
		t.Error(b, got, e.Left())
	}
	if b, got := e.Raw(3); string(b) != "abc" || got != api.OK || e.Left() != 0 {
		t.Error(b, got, e.Left())
	}
	is(t, "end", e.End(), api.OK)
	is(t, "end of nothing", octet.Look(nil).End(), api.OK)
}

// P1.3
func TestCompact(t *testing.T) {
	for n, want := range sizes() {
		if got := octet.Compact(n); got != want {
			t.Error(n, got, want)
		}
		var p octet.Pen
		if p.Size(n); p.Len() != want {
			t.Error(n, p.Len(), want)
		}
	}
}

// P1.4
func TestApart(t *testing.T) {
	b := []byte{3, 'a', 'b', 'c', 'd'}
	e := octet.Look(b)
	b[1] = 'x'
	s, _ := e.Bytes(3)
	r, _ := e.Raw(1)
	if string(s) != "abc" || string(append(s, 'z')) != "abcz" || string(r) != "d" {
		t.Error(s, r)
	}
	part := []byte("part")
	var p octet.Pen
	p.Raw(part)
	p.Bytes(part)
	all := p.All()
	part[0], all[1] = 'X', 'Y'
	if got := string(p.All()); got != "part\x04part" {
		t.Error(got)
	}
	kept := p.All()
	p.Fixed(1, 1)
	if string(append(kept, 'q')) != "part\x04partq" || string(p.All()) != "part\x04part\x01" {
		t.Error(kept, p.All())
	}
}

// P1.5
func TestReadBack(t *testing.T) {
	for n := range sizes() {
		var p octet.Pen
		p.Size(n)
		p.Bytes(bytes.Repeat([]byte{7}, int(n%700)))
		p.Fixed(8, n)
		p.Raw([]byte("end"))
		e := octet.Look(p.All())
		a, x := e.Size()
		b, y := e.Bytes(700)
		c, z := e.Fixed(8)
		d, w := e.Raw(3)
		if a != n || len(b) != int(n%700) || c != n || string(d) != "end" || x+y+z+w != api.OK || e.End() != api.OK {
			t.Error(n, a, len(b), c, d, x, y, z, w, e.Left())
		}
	}
}

// P1.5: of all encodings of a small number only one is read.
func TestOneEncoding(t *testing.T) {
	for n := range uint64(70000) {
		valid := 0
		for _, size := range []int{1, 2, 4, 8} {
			var p octet.Pen
			if size > 1 {
				p.Raw([]byte{map[int]byte{2: 253, 4: 254, 8: 255}[size]})
			}
			if p.Fixed(size, n) != api.OK {
				continue
			}
			if got, e := octet.Look(p.All()).Size(); e == api.OK && got == n {
				valid++
			}
		}
		if valid != 1 {
			t.Fatal(n, valid)
		}
	}
}
