package tx_test

import (
	"bytes"
	"crypto/sha256"
	"math/rand"
	"slices"
	"testing"

	"purser/api"
	"purser/tx"
)

func example() api.Tx {
	return api.Tx{Version: 1, In: []api.In{{Prev: api.Outpoint{N: 0xFFFFFFFF}, Script: []byte{0x2A}, Seq: 7}}, Out: []api.Out{{Value: 5, Script: []byte{0x6A}}}}
}

func exampleBytes() []byte {
	return slices.Concat([]byte{1, 0, 0, 0, 1}, make([]byte, 32), []byte{255, 255, 255, 255, 1, 0x2A, 7, 0, 0, 0, 1, 5, 0, 0, 0, 0, 0, 0, 0, 1, 0x6A, 0, 0, 0, 0})
}

func made(r *rand.Rand, ins, outs, script int) api.Tx {
	t := api.Tx{Version: r.Uint32(), Lock: r.Uint32()}
	bytes := func() []byte {
		b := make([]byte, r.Intn(script+1))
		r.Read(b)
		return b
	}
	for range ins {
		in := api.In{Script: bytes(), Seq: r.Uint32(), Prev: api.Outpoint{N: r.Uint32()}}
		r.Read(in.Prev.Tx[:])
		t.In = append(t.In, in)
	}
	for range outs {
		t.Out = append(t.Out, api.Out{Value: int64(r.Uint64()), Script: bytes()})
	}
	return t
}

// invalid are transactions that may not be.
func invalid() []api.Tx {
	r := rand.New(rand.NewSource(1))
	l := []api.Tx{{}, made(r, 0, 1, 9), made(r, 1, 0, 9), made(r, 51, 1, 9), made(r, 1, 51, 9)}
	in, out := made(r, 3, 3, 9), made(r, 3, 3, 9)
	in.In[2].Script = make([]byte, 2001)
	out.Out[2].Script = make([]byte, 2001)
	return append(l, in, out)
}

func valid() []api.Tx {
	r := rand.New(rand.NewSource(2))
	l := []api.Tx{example()}
	for _, n := range []int{1, 2, 7, 49, 50} {
		l = append(l, made(r, n, 1, 300), made(r, 1, n, 300), made(r, n, n, 2000))
	}
	full := made(r, 50, 50, 0)
	for i := range full.In {
		full.In[i].Script = bytes.Repeat([]byte{1}, 2000)
		full.Out[i].Script = bytes.Repeat([]byte{2}, 2000)
	}
	return append(l, full)
}

// P6.1
func TestEncode(t *testing.T) {
	if b, e := tx.Encode(example()); !bytes.Equal(b, exampleBytes()) || e != api.OK {
		t.Errorf("% x, error %d", b, e)
	}
	negative := example()
	negative.Out[0].Value = -2
	if b, _ := tx.Encode(negative); !bytes.Equal(b[48:56], []byte{254, 255, 255, 255, 255, 255, 255, 255}) {
		t.Errorf("% x", b[48:56])
	}
	for i, x := range invalid() {
		b, e := tx.Encode(x)
		id, f := tx.Id(x)
		if b != nil || id != (api.Hash{}) || e != api.ErrTx || f != api.ErrTx || tx.Check(x) != api.ErrTx {
			t.Error(i, e, f, tx.Check(x))
		}
	}
	for i, x := range valid() {
		b, e := tx.Encode(x)
		once := sha256.Sum256(b)
		id, f := tx.Id(x)
		if e != api.OK || f != api.OK || tx.Check(x) != api.OK || id != api.Hash(sha256.Sum256(once[:])) {
			t.Error(i, e, f)
		}
	}
}

// P6.2, P6.5
func TestDecode(t *testing.T) {
	for i, x := range valid() {
		b, _ := tx.Encode(x)
		back, e := tx.Decode(b)
		if e != api.OK || !tx.Same(back, x) {
			t.Fatal(i, e)
		}
		if again, e := tx.Encode(back); !bytes.Equal(again, b) || e != api.OK {
			t.Fatal(i, e)
		}
		more := append(slices.Clone(b), 0)
		if _, e := tx.Decode(more); e != api.ErrTx {
			t.Error(i, e)
		}
		first, n, e := tx.First(slices.Concat(b, make([]byte, 5000)))
		if !tx.Same(first, x) || n != len(b) || e != api.OK {
			t.Error(i, n, e)
		}
		for cut := 0; cut < len(b); cut += 1 + len(b)/300 {
			if y, n, e := tx.First(b[:cut]); e != api.ErrTx || n != 0 || !tx.Same(y, api.Tx{}) {
				t.Fatal(i, cut, n, e)
			}
		}
	}
}

// P6.2
func TestDecodeWrong(t *testing.T) {
	good := exampleBytes()
	change := func(at int, with ...byte) []byte { return slices.Concat(good[:at], with, good[at+1:]) }
	long := slices.Concat(good[:41], []byte{253, 0xD1, 7}, make([]byte, 2001), good[43:])
	many := slices.Concat(good[:4], []byte{51}, bytes.Repeat(good[5:47], 51), good[47:])
	most := slices.Concat(good[:4], []byte{50}, bytes.Repeat(good[5:47], 50), good[47:])
	for i, b := range [][]byte{nil, {1}, change(4, 0), change(4, 253, 1, 0), change(41, 253, 1, 0), change(47, 0), change(47, 51), change(47, 253, 1, 0), long, many,
		change(4, 255, 255, 255, 255, 255, 255, 255, 255, 255), change(41, 255, 255, 255, 255, 255, 255, 255, 255, 255)} {
		if x, e := tx.Decode(b); e != api.ErrTx || !tx.Same(x, api.Tx{}) {
			t.Error(i, x, e)
		}
		if x, n, e := tx.First(b); e != api.ErrTx || n != 0 || !tx.Same(x, api.Tx{}) {
			t.Error(i, x, n, e)
		}
	}
	if x, e := tx.Decode(most); e != api.OK || len(x.In) != 50 {
		t.Error(e)
	}
}

// P6.3
func TestCoinbase(t *testing.T) {
	if !tx.Coinbase(example()) || tx.Coinbase(api.Tx{}) {
		t.Error("one input, or none")
	}
	zero, other, second := example(), example(), example()
	zero.In[0].Prev.N = 0
	other.In[0].Prev.Tx[31] = 1
	second.In = append(second.In, second.In[0])
	if tx.Coinbase(zero) || tx.Coinbase(other) || tx.Coinbase(second) {
		t.Error(tx.Coinbase(zero), tx.Coinbase(other), tx.Coinbase(second))
	}
}

// P6.3, P6.4, P6.5
func TestSameAndCopy(t *testing.T) {
	base := made(rand.New(rand.NewSource(3)), 2, 2, 20)
	base.In[0].Script, base.Out[0].Script = []byte("in"), []byte("out")
	before, _ := tx.Encode(base)
	changes := []func(x *api.Tx){
		func(x *api.Tx) { x.Version++ }, func(x *api.Tx) { x.Lock++ }, func(x *api.Tx) { x.In = x.In[:1] }, func(x *api.Tx) { x.Out = x.Out[:1] },
		func(x *api.Tx) { x.In[1].Prev.Tx[0]++ }, func(x *api.Tx) { x.In[1].Prev.N++ }, func(x *api.Tx) { x.In[1].Seq++ }, func(x *api.Tx) { x.In[0].Script[0]++ },
		func(x *api.Tx) { x.Out[1].Value++ }, func(x *api.Tx) { x.Out[0].Script[0]++ }, func(x *api.Tx) { x.In[0], x.In[1] = x.In[1], x.In[0] },
	}
	for i, change := range changes {
		c := tx.Copy(base)
		if !tx.Same(c, base) || !tx.Same(base, c) {
			t.Fatal(i)
		}
		change(&c)
		b, _ := tx.Encode(c)
		if tx.Same(c, base) || tx.Same(base, c) || bytes.Equal(b, before) {
			t.Error(i)
		}
		if again, _ := tx.Encode(base); !bytes.Equal(again, before) {
			t.Fatal("shared", i)
		}
	}
	none, empty := example(), example()
	none.In[0].Script, empty.In[0].Script = nil, []byte{}
	none.Out[0].Script, empty.Out[0].Script = []byte{}, nil
	if !tx.Same(none, empty) || !tx.Same(tx.Copy(none), none) || !tx.Same(tx.Copy(api.Tx{}), api.Tx{In: []api.In{}, Out: []api.Out{}}) {
		t.Error("nil and empty")
	}
}

// P6.4
func TestApart(t *testing.T) {
	b := exampleBytes()
	x, _ := tx.Decode(b)
	x.In[0].Script[0], x.Out[0].Script[0] = 1, 2
	if !bytes.Equal(b, exampleBytes()) {
		t.Error("shared")
	}
	x = example()
	got, _ := tx.Encode(x)
	got[42] = 9
	if !tx.Same(x, example()) {
		t.Error("shared")
	}
}

// P6.3
func TestCompare(t *testing.T) {
	ascending := []api.Outpoint{{}, {N: 1}, {N: 256}, {N: 0xFFFFFFFF}, {Tx: api.Hash{31: 1}}, {Tx: api.Hash{31: 2}, N: 3}, {Tx: api.Hash{1}}, {Tx: api.Hash{1}, N: 1}, {Tx: api.Hash{255}}}
	for i, a := range ascending {
		for j, b := range ascending {
			want := 0
			if i < j {
				want = -1
			} else if i > j {
				want = 1
			}
			if got := tx.Compare(a, b); got != want {
				t.Error(a, b, got)
			}
		}
	}
}
