package segment_test

import (
	"bytes"
	"math/rand"
	"slices"
	"strings"
	"testing"

	"purser/api"
	"purser/record"
	"purser/segment"
)

func one(kind int, text string) api.Record { return api.Record{Kind: kind, Payload: []byte(text)} }

func groups() [][]api.Record {
	return [][]api.Record{{one(3, "x")}, {one(0, ""), one(254, "two"), one(1, "three")}, {one(9, strings.Repeat("n", 50))}, {one(1, "a"), one(1, "a")}}
}

// encoded are the encodings of groups, starting with a number, and where each ends.
func encoded(t *testing.T, number uint64, l [][]api.Record) ([]byte, []int) {
	t.Helper()
	var b []byte
	var ends []int
	for i, g := range l {
		x, e := segment.Encode(number+uint64(i), g)
		if e != api.OK {
			t.Fatal(i, e)
		}
		b = append(b, x...)
		ends = append(ends, len(b))
	}
	return b, ends
}

// raw is records, one behind the other.
func raw(t *testing.T, l ...api.Record) []byte {
	t.Helper()
	b, e := record.Encode(l...)
	if e != api.OK {
		t.Fatal(e)
	}
	return b
}

func marker(b ...byte) api.Record { return api.Record{Kind: 255, Payload: b} }

// P17.1
func TestEncode(t *testing.T) {
	want := raw(t, one(3, "x"), marker(1, 0, 0, 0, 0, 0, 0, 0, 1, 0, 0, 0))
	if b, e := segment.Encode(1, groups()[0]); !bytes.Equal(b, want) || len(b) != 39 || e != api.OK {
		t.Error(b, e)
	}
	want = raw(t, append(groups()[1], marker(8, 7, 6, 5, 4, 3, 2, 1, 3, 0, 0, 0))...)
	if b, e := segment.Encode(0x0102030405060708, groups()[1]); !bytes.Equal(b, want) || e != api.OK {
		t.Error(b, e)
	}
	for i, x := range []struct {
		number uint64
		l      []api.Record
	}{{0, groups()[0]}, {1, nil}, {1, []api.Record{}}, {1, []api.Record{one(255, "x")}}, {1, []api.Record{one(1, "x"), one(255, "x"), one(1, "x")}}, {1, []api.Record{one(256, "")}}, {1, []api.Record{one(-1, "")}}, {1, []api.Record{one(1, "x"), {Payload: make([]byte, 200001)}}}} {
		if b, e := segment.Encode(x.number, x.l); b != nil || e != api.ErrSegment {
			t.Error(i, e)
		}
	}
	if _, e := segment.Encode(1<<64-1, groups()[0]); e != api.OK {
		t.Error(e)
	}
}

// great is a group whose encoding has so many bytes.
func great(size int) []api.Record {
	var l []api.Record
	for left := size - 25; left > 0; {
		n := min(left, 200013)
		if rest := left - n; rest > 0 && rest < 13 {
			n -= 13
		}
		l = append(l, api.Record{Kind: 1, Payload: make([]byte, n-13)})
		left -= n
	}
	return l
}

// P17.1, P17.2
func TestGreatest(t *testing.T) {
	b, e := segment.Encode(5, great(1500000))
	if len(b) != 1500000 || e != api.OK {
		t.Fatal(len(b), e)
	}
	if l, end := segment.Read(b, 5); len(l) != 1 || end != len(b) {
		t.Error(len(l), end)
	}
	over := great(1500001)
	if b, e := segment.Encode(5, over); b != nil || e != api.ErrSegment {
		t.Error(len(b), e)
	}
	b = raw(t, append(over, marker(5, 0, 0, 0, 0, 0, 0, 0, byte(len(over)), 0, 0, 0))...)
	small, _ := segment.Encode(4, groups()[0])
	if l, end := segment.Read(slices.Concat(small, b), 4); len(b) != 1500001 || len(l) != 1 || end != len(small) {
		t.Error(len(b), len(l), end)
	}
}

// P17.2: the bound is that of each group.
func TestSeveralGreat(t *testing.T) {
	b, ends := encoded(t, 1, [][]api.Record{great(1500000), great(1500000), groups()[0], great(1400000)})
	if l, end := segment.Read(b, 1); len(l) != 4 || end != ends[3] {
		t.Error(len(l), end)
	}
}

// P17.2, P17.5
func TestRead(t *testing.T) {
	for _, number := range []uint64{1, 7, 1 << 40} {
		b, ends := encoded(t, number, groups())
		if l, end := segment.Read(b, number); !segment.Same(l, groups()) || end != len(b) {
			t.Error(number, len(l), end)
		}
		for _, other := range []uint64{0, number + 1, number - 1} {
			if l, end := segment.Read(b, other); l != nil || end != 0 {
				t.Error(other, len(l), end)
			}
		}
		for cut := range b {
			whole := 0
			for whole < len(ends) && ends[whole] <= cut {
				whole++
			}
			want := 0
			if whole > 0 {
				want = ends[whole-1]
			}
			if l, end := segment.Read(b[:cut], number); !segment.Same(l, groups()[:whole]) || end != want {
				t.Fatal(cut, len(l), end)
			}
		}
	}
	b, _ := encoded(t, 1<<64-2, groups()[:2])
	more := slices.Concat(b, raw(t, one(1, "x"), marker(0, 0, 0, 0, 0, 0, 0, 0, 1, 0, 0, 0)))
	if l, end := segment.Read(more, 1<<64-2); len(l) != 2 || end != len(b) {
		t.Error(len(l), end)
	}
}

// P17.2
func TestReadWrong(t *testing.T) {
	x, y := one(1, "x"), one(2, "y")
	good := raw(t, x, marker(1, 0, 0, 0, 0, 0, 0, 0, 1, 0, 0, 0))
	for i, b := range [][]byte{
		nil, raw(t, x, y), raw(t, marker(1, 0, 0, 0, 0, 0, 0, 0, 0, 0, 0, 0)), raw(t, x, marker(1, 0, 0, 0, 0, 0, 0, 0, 2, 0, 0, 0)), raw(t, x, marker(3, 0, 0, 0, 0, 0, 0, 0, 1, 0, 0, 0)), raw(t, x, marker(1, 0, 0, 0, 0, 0, 0, 0, 1, 0, 0)),
		raw(t, x, marker(1, 0, 0, 0, 0, 0, 0, 0, 1, 0, 0, 0, 0)), raw(t, x, marker(), x, marker(1, 0, 0, 0, 0, 0, 0, 0, 1, 0, 0, 0)), raw(t, x, marker(0, 0, 0, 0, 0, 0, 0, 0, 1, 0, 0, 0)), raw(t, x, y, marker(1, 0, 0, 0, 0, 0, 0, 0, 1, 0, 0, 0)),
	} {
		if l, end := segment.Read(b, 1); l != nil || end != 0 {
			t.Error(i, l, end)
		}
		if l, end := segment.Read(slices.Concat(good, b, good), 1); len(l) != 1 || end != len(good) {
			t.Error(i, l, end)
		}
	}
	if l, end := segment.Read(raw(t, x, marker(0, 0, 0, 0, 0, 0, 0, 0, 1, 0, 0, 0)), 0); l != nil || end != 0 {
		t.Error(l, end)
	}
}

// P17.5
func TestDamage(t *testing.T) {
	b, ends := encoded(t, 3, groups())
	r := rand.New(rand.NewSource(17))
	for at := range b {
		for range 30 {
			c := slices.Clone(b)
			c[at] ^= byte(1 + r.Intn(255))
			for k := 1; k < 1+r.Intn(4) && at+k < len(c); k++ {
				c[at+k] = byte(r.Intn(256))
			}
			whole := 0
			for ends[whole] <= at {
				whole++
			}
			if l, _ := segment.Read(c, 3); !segment.Same(l, groups()[:whole]) {
				t.Fatal(at, len(l), whole)
			}
		}
	}
}

// P17.3
func TestNames(t *testing.T) {
	for n, name := range map[int]string{1: "seg.1", 12: "seg.12", 1 << 30: "seg.1073741824"} {
		if segment.Name(n) != name || segment.Number(name) != n {
			t.Error(n, segment.Name(n), segment.Number(name))
		}
	}
	for _, n := range []int{0, -1, 1<<30 + 1, 1 << 62, -1 << 63} {
		if segment.Name(n) != "" {
			t.Error(n, segment.Name(n))
		}
	}
	for _, name := range []string{"", "seg.", "seg", "seg.0", "seg.012", "seg.-1", "seg.+1", "seg.1073741825", "seg.99999999999999999999999", "seg.1 ", " seg.1", "seg.1_0", "seg.0x1", "SEG.1", "1", "seg.seg.1", "seg.1a", "manifest", "seg.１"} {
		if n := segment.Number(name); n != 0 {
			t.Error(name, n)
		}
	}
}

// P17.2
func TestSame(t *testing.T) {
	a := groups()
	if !segment.Same(a, groups()) || !segment.Same(nil, [][]api.Record{}) {
		t.Error("equal")
	}
	for i, b := range [][][]api.Record{nil, a[:3], {a[1], a[0], a[2], a[3]}, {a[0], a[1], a[2], {a[3][0]}}, {{one(3, "y")}, a[1], a[2], a[3]}, {{one(4, "x")}, a[1], a[2], a[3]}} {
		if segment.Same(a, b) || segment.Same(b, a) {
			t.Error(i)
		}
	}
	if segment.Same([][]api.Record{{a[0][0], a[0][0]}}, [][]api.Record{{a[0][0]}, {a[0][0]}}) {
		t.Error("divided otherwise")
	}
}

// P17.4
func TestApart(t *testing.T) {
	l := make([]api.Record, 0, 5)
	l = append(l, one(3, "x"), one(4, "y"))
	b, _ := segment.Encode(1, l)
	if l[:3][2].Kind != 0 {
		t.Error("wrote behind its argument")
	}
	l[0].Payload[0] = 'Z'
	got, _ := segment.Read(b, 1)
	if string(got[0][0].Payload) != "x" {
		t.Error(got)
	}
	got[0][1].Payload[0] = 'Z'
	if again, _ := segment.Read(b, 1); string(again[0][1].Payload) != "y" {
		t.Error(again)
	}
}
