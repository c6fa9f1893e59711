package ops_test

import (
	"bytes"
	"math/rand"
	"slices"
	"testing"

	"purser/api"
	"purser/ops"
)

func data(n int) []byte { return bytes.Repeat([]byte{0x5A}, n) }

func is(l []api.Op, want ...api.Op) bool { return ops.Same(l, want) }

// P10.1
func TestSplit(t *testing.T) {
	if l, e := ops.Split([]byte{2, 0x61, 0x62, 0x61, 0}); e != api.OK || !is(l, api.Op{Code: 2, Data: []byte("ab")}, api.Op{Code: api.OpNop}, api.Op{}) {
		t.Error(l, e)
	}
	if l, e := ops.Split([]byte{0x4C, 2, 0x61, 0x62}); e != api.OK || !is(l, api.Op{Code: api.OpPush1, Data: []byte("ab")}) {
		t.Error(l, e)
	}
	if l, e := ops.Split([]byte{0x4D, 1, 0, 7, 0x4C, 0, 0x4D, 0, 0, 0xFF}); e != api.OK || !is(l, api.Op{Code: api.OpPush2, Data: []byte{7}}, api.Op{Code: api.OpPush1}, api.Op{Code: api.OpPush2}, api.Op{Code: 0xFF}) {
		t.Error(l, e)
	}
	long := slices.Concat([]byte{0x4D, 0x34, 0x12}, data(0x1234))
	if l, e := ops.Split(long); e != api.OK || !is(l, api.Op{Code: api.OpPush2, Data: data(0x1234)}) {
		t.Error(len(l), e)
	}
	for _, b := range [][]byte{{2, 0x61}, {0x4D, 1}, {1}, {0x4C}, {0x4D}, {0x4D, 1, 0}, {0x4C, 1}, {0x61, 0x4C}, {0x4B}, {0x61, 3, 1, 2}, {0x4D, 0}, long[:len(long)-1]} {
		if l, e := ops.Split(b); l != nil || e != api.ErrOps {
			t.Errorf("% x: %v, error %d", b, l, e)
		}
	}
	if l, e := ops.Split(nil); len(l) != 0 || e != api.OK {
		t.Error(l, e)
	}
}

// P10.1
func TestJoin(t *testing.T) {
	for code := range 256 {
		for _, n := range []int{0, 1, 2, 74, 75, 76, 255, 256, 65535, 65536} {
			o := api.Op{Code: byte(code), Data: data(n)}
			valid, head := n == 0, []byte{byte(code)}
			switch {
			case code <= 0x4B:
				valid = n == code
			case code == 0x4C:
				valid, head = n <= 255, append(head, byte(n))
			case code == 0x4D:
				valid, head = n <= 65535, append(head, byte(n), byte(n>>8))
			}
			script, e := ops.Join([]api.Op{{Code: api.OpNop}, o})
			if !valid {
				if script != nil || e != api.ErrOps {
					t.Fatal(code, n, e)
				}
				continue
			}
			if e != api.OK || !bytes.Equal(script, slices.Concat([]byte{0x61}, head, data(n))) {
				t.Fatal(code, n, e)
			}
			if back, e := ops.Split(script); e != api.OK || !is(back, api.Op{Code: api.OpNop}, o) {
				t.Fatal(code, n, e)
			}
		}
	}
	if script, e := ops.Join(nil); len(script) != 0 || e != api.OK {
		t.Error(script, e)
	}
}

// P10.5
func TestThereAndBack(t *testing.T) {
	r := rand.New(rand.NewSource(10))
	split := 0
	for range 20000 {
		script := make([]byte, r.Intn(30))
		for i := range script {
			script[i] = byte(r.Intn(8))
			if r.Intn(4) == 0 {
				script[i] = byte(r.Intn(256))
			}
		}
		l, e := ops.Split(script)
		if e != api.OK {
			continue
		}
		split++
		if back, e := ops.Join(l); e != api.OK || !bytes.Equal(back, script) {
			t.Fatalf("% x: % x, error %d", script, back, e)
		}
	}
	if split < 1000 {
		t.Error(split)
	}
}

// P10.2, P10.5
func TestPush(t *testing.T) {
	for n, code := range map[int]byte{0: 0, 1: 1, 2: 2, 75: 0x4B, 76: 0x4C, 255: 0x4C, 256: 0x4D, 65535: 0x4D} {
		o, e := ops.Push(data(n))
		if o.Code != code || !bytes.Equal(o.Data, data(n)) || e != api.OK {
			t.Error(n, o.Code, e)
		}
		if v, push := ops.Value(o); !push || !bytes.Equal(v, data(n)) {
			t.Error(n, push)
		}
	}
	if o, e := ops.Push([]byte{1}); o.Code != 1 || !bytes.Equal(o.Data, []byte{1}) || e != api.OK {
		t.Error(o, e)
	}
	for _, n := range []int{65536, 100000} {
		if o, e := ops.Push(data(n)); o.Code != 0 || o.Data != nil || e != api.ErrOps {
			t.Error(n, e)
		}
	}
}

// P10.2
func TestValue(t *testing.T) {
	for code := range 256 {
		for n := range 80 {
			v, push := ops.Value(api.Op{Code: byte(code), Data: data(n)})
			want, wantPush := []byte(nil), false
			switch {
			case code <= 0x4B && n == code, code == 0x4C, code == 0x4D:
				want, wantPush = data(n), true
			case code == 0x4F && n == 0:
				want, wantPush = []byte{0x81}, true
			case code >= 0x51 && code <= 0x60 && n == 0:
				want, wantPush = []byte{byte(code - 0x50)}, true
			}
			if push != wantPush || !bytes.Equal(v, want) || !push && v != nil {
				t.Error(code, n, v, push)
			}
		}
	}
	if _, push := ops.Value(api.Op{Code: 0x4C, Data: data(256)}); push {
		t.Error("too long for OpPush1")
	}
	if _, push := ops.Value(api.Op{Code: 0x4D, Data: data(65536)}); push {
		t.Error("too long for OpPush2")
	}
}

// P10.3
func TestPushes(t *testing.T) {
	for _, b := range [][]byte{nil, {0}, {1, 0x61}, {0x4F}, {0x51, 0x60}, {0x4C, 1, 0x61}, {0x4D, 1, 0, 0x61}, append([]byte{0x4B}, data(75)...), append([]byte{0x4D, 0x58, 2}, data(600)...)} {
		if !ops.Pushes(b) {
			t.Errorf("% x", b)
		}
	}
	for _, b := range [][]byte{{1}, {0x4E}, {0x50}, {0x61}, {0, 0x61}, {0x61, 0}, {0x6A}, {0x51, 0x4C}, {0x51, 2, 0}, {0xFF}} {
		if ops.Pushes(b) {
			t.Errorf("% x", b)
		}
	}
}

// P10.3
func TestBurnt(t *testing.T) {
	for _, b := range [][]byte{{0x6A}, {0x6A, 1, 2}, {0x6A, 5}, make([]byte, 521), make([]byte, 2000)} {
		if !ops.Burnt(b) {
			t.Errorf("% x", b)
		}
	}
	for _, b := range [][]byte{nil, {0x51}, {1, 0x6A}, {0x51, 0x6A}, make([]byte, 520)} {
		if ops.Burnt(b) {
			t.Errorf("% x", b)
		}
	}
}

// P10.3
func TestSame(t *testing.T) {
	a := []api.Op{{Code: 1, Data: []byte{7}}, {Code: 0x61}}
	if !ops.Same(a, []api.Op{{Code: 1, Data: []byte{7}}, {Code: 0x61, Data: []byte{}}}) || !ops.Same(nil, []api.Op{}) {
		t.Error("equal")
	}
	for i, b := range [][]api.Op{nil, a[:1], {a[1], a[0]}, {{Code: 1, Data: []byte{8}}, a[1]}, {{Code: 2, Data: []byte{7}}, a[1]}, {a[0], {Code: 0x62}}, {a[0], a[1], a[1]}} {
		if ops.Same(a, b) || ops.Same(b, a) {
			t.Error(i)
		}
	}
}

// P10.4
func TestApart(t *testing.T) {
	script := []byte{2, 'a', 'b', 0x4C, 1, 'c'}
	l, _ := ops.Split(script)
	value, _ := ops.Value(l[0])
	pushed, _ := ops.Push(script)
	joined, _ := ops.Join(l)
	value[0], pushed.Data[1], joined[1], l[1].Data[0] = 'X', 'X', 'X', 'X'
	if string(l[0].Data) != "ab" || string(script) != "\x02ab\x4C\x01c" {
		t.Error(l, script)
	}
	_ = append(l[0].Data, 'Y')
	if string(script) != "\x02ab\x4C\x01c" {
		t.Error(script)
	}
}
