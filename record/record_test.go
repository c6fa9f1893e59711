package record_test

import (
	"bytes"
	"hash/crc32"
	"math/rand"
	"slices"
	"testing"

	"purser/api"
	"purser/record"
)

// summed is bytes with their checksum behind them.
func summed(b []byte) []byte {
	sum := crc32.Checksum(b, crc32.MakeTable(crc32.Castagnoli))
	return slices.Concat(b, []byte{byte(sum), byte(sum >> 8), byte(sum >> 16), byte(sum >> 24)})
}

func encoding(r api.Record) []byte {
	n := len(r.Payload)
	return slices.Concat(summed([]byte{byte(r.Kind), byte(n), byte(n >> 8), byte(n >> 16), byte(n >> 24)}), summed(r.Payload))
}

func valid() []api.Record {
	l := []api.Record{{Kind: 7, Payload: []byte("ab")}, {}, {Kind: 255}, {Kind: 0, Payload: make([]byte, 200000)}}
	r := rand.New(rand.NewSource(16))
	for range 10 {
		b := make([]byte, r.Intn(700))
		r.Read(b)
		l = append(l, api.Record{Kind: r.Intn(256), Payload: b})
	}
	return l
}

func invalid() []api.Record {
	return []api.Record{{Kind: -1}, {Kind: 256}, {Kind: 1 << 40}, {Kind: 1, Payload: make([]byte, 200001)}}
}

// P16.1
func TestEncode(t *testing.T) {
	if b, e := record.Encode(); len(b) != 0 || e != api.OK {
		t.Error(b, e)
	}
	want := []byte{7, 2, 0, 0, 0}
	if b, e := record.Encode(valid()[0]); len(b) != 15 || !bytes.Equal(b[:5], want) || string(b[9:11]) != "ab" || e != api.OK {
		t.Error(b, e)
	}
	var all []byte
	for _, r := range valid() {
		if b, e := record.Encode(r); !bytes.Equal(b, encoding(r)) || e != api.OK || record.Check(r) != api.OK {
			t.Error(r.Kind, len(r.Payload), e)
		}
		all = append(all, encoding(r)...)
	}
	if b, e := record.Encode(valid()...); !bytes.Equal(b, all) || e != api.OK {
		t.Error(e)
	}
	for _, r := range invalid() {
		if b, e := record.Encode(valid()[0], r); b != nil || e != api.ErrRecord || record.Check(r) != api.ErrRecord {
			t.Error(r.Kind, e)
		}
	}
}

// P16.2
func TestDecode(t *testing.T) {
	l := valid()
	b, _ := record.Encode(l...)
	at := 0
	for i, want := range l {
		r, next, e := record.Decode(b, at)
		if !record.Same([]api.Record{r}, []api.Record{want}) || next != at+13+len(want.Payload) || e != api.OK {
			t.Fatal(i, next, e)
		}
		at = next
	}
	for _, at := range []int{-1, len(b), len(b) + 1, 1, 14, 1 << 62, -1 << 63} {
		if r, next, e := record.Decode(b, at); r.Kind != 0 || r.Payload != nil || next != 0 || e != api.ErrRecord {
			t.Error(at, next, e)
		}
	}
	short := b[:15]
	for n := range short {
		if r, next, e := record.Decode(short[:n], 0); r.Kind != 0 || r.Payload != nil || next != 0 || e != api.ErrRecord {
			t.Error(n, next, e)
		}
	}
}

// P16.2
func TestDecodeDamaged(t *testing.T) {
	b := encoding(valid()[0])
	for at := range b {
		c := slices.Clone(b)
		c[at] ^= 0x10
		if r, next, e := record.Decode(c, 0); r.Kind != 0 || r.Payload != nil || next != 0 || e != api.ErrRecord {
			t.Error(at, r, next, e)
		}
	}
}

// P16.2
func TestDecodeLong(t *testing.T) {
	payload := make([]byte, 200001)
	long := slices.Concat(summed([]byte{1, 0x41, 0x0D, 3, 0}), summed(payload))
	if _, _, e := record.Decode(long, 0); e != api.ErrRecord {
		t.Error(e)
	}
	if l, end := record.All(long, 0); len(l) != 0 || end != 0 {
		t.Error(len(l), end)
	}
	greatest := slices.Concat(summed([]byte{1, 255, 255, 255, 255}), summed(nil))
	if _, _, e := record.Decode(greatest, 0); e != api.ErrRecord {
		t.Error(e)
	}
}

// P16.2
func TestAll(t *testing.T) {
	l := []api.Record{{Kind: 1, Payload: []byte("one")}, {Kind: 2}, {Kind: 3, Payload: []byte("three")}}
	b, _ := record.Encode(l...)
	for _, x := range []struct {
		b       []byte
		at, end int
		want    []api.Record
	}{
		{b, 0, len(b), l}, {b, 16, len(b), l[1:]}, {b, len(b), len(b), nil}, {b, 3, 3, nil}, {b, -1, 0, nil}, {b, len(b) + 1, 0, nil}, {nil, 0, 0, nil}, {nil, 1, 0, nil},
		{b[:len(b)-1], 0, 29, l[:2]}, {slices.Concat(b, []byte{1, 2, 3}), 0, len(b), l}, {slices.Concat(b, b), 29, 2 * len(b), slices.Concat(l[2:], l)},
	} {
		if got, end := record.All(x.b, x.at); !record.Same(got, x.want) || end != x.end {
			t.Error(x.at, got, end)
		}
	}
}

// P16.2
func TestSame(t *testing.T) {
	a := []api.Record{{Kind: 1, Payload: []byte("x")}, {Kind: 2}}
	if !record.Same(a, []api.Record{{Kind: 1, Payload: []byte("x")}, {Kind: 2, Payload: []byte{}}}) || !record.Same(nil, []api.Record{}) {
		t.Error("equal")
	}
	for i, b := range [][]api.Record{nil, a[:1], {a[1], a[0]}, {{Kind: 1, Payload: []byte("y")}, a[1]}, {{Kind: 3, Payload: []byte("x")}, a[1]}, {a[0], a[1], a[1]}} {
		if record.Same(a, b) || record.Same(b, a) {
			t.Error(i)
		}
	}
}

// P16.4
func TestDamage(t *testing.T) {
	l := []api.Record{{Kind: 1, Payload: []byte("one")}, {Kind: 2}, {Kind: 3, Payload: []byte("three")}, {Kind: 4, Payload: bytes.Repeat([]byte{9}, 40)}}
	b, _ := record.Encode(l...)
	ends := []int{16, 29, 47, 100}
	if len(b) != 100 {
		t.Fatal(len(b))
	}
	r := rand.New(rand.NewSource(17))
	for at := range b {
		for range 60 {
			c := slices.Clone(b)
			for k := range 1 + r.Intn(4) {
				if at+k < len(c) {
					c[at+k] = byte(r.Intn(256))
				}
			}
			first := slices.IndexFunc(c, func(byte) bool { return true })
			for first < len(c) && c[first] == b[first] {
				first++
			}
			if first == len(c) {
				continue
			}
			whole, end := 0, 0
			for i, x := range ends {
				if x <= first {
					whole, end = i+1, x
				}
			}
			if got, e := record.All(c, 0); !record.Same(got, l[:whole]) || e != end {
				t.Fatal(at, len(got), whole, e, end)
			}
		}
	}
}

// P16.3
func TestApart(t *testing.T) {
	payload := []byte("payload")
	b, _ := record.Encode(api.Record{Kind: 1, Payload: payload})
	payload[0] = 'X'
	r, _, e := record.Decode(b, 0)
	if string(r.Payload) != "payload" || e != api.OK {
		t.Error(r, e)
	}
	r.Payload[1] = 'Y'
	_ = append(r.Payload, "over"...)
	l, _ := record.All(b, 0)
	if len(l) != 1 || string(l[0].Payload) != "payload" {
		t.Error(l)
	}
}
