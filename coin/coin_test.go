package coin_test

import (
	"bytes"
	"math/rand"
	"slices"
	"testing"

	"purser/api"
	"purser/coin"
)

const most = 2100000000000000

func point(n int) api.Outpoint {
	return api.Outpoint{Tx: api.Hash{byte(n), byte(n >> 8)}, N: uint32(n % 3)}
}

func changes(r *rand.Rand, height, made, spends int) api.Apply {
	a := api.Apply{Height: height, Burnt: r.Int63n(most + 1), Left: r.Int63n(most + 1)}
	r.Read(a.Block[:])
	for i := range made {
		script := make([]byte, r.Intn(300))
		r.Read(script)
		a.Made = append(a.Made, api.Version{Point: point(i), Made: height, Value: r.Int63n(most + 1), Script: script, Base: r.Intn(2) == 0})
	}
	for i := range spends {
		s := api.Spend{Point: point(2*i + 1)}
		r.Read(s.Spender[:])
		a.Spends = append(a.Spends, s)
	}
	return a
}

func valid() []api.Apply {
	r := rand.New(rand.NewSource(20))
	edge := changes(r, 1<<20, 2, 0)
	edge.Burnt, edge.Left, edge.Made[0].Value, edge.Made[1].Script = most, most, most, make([]byte, 2000)
	return []api.Apply{{}, {Height: 2, Burnt: 1}, changes(r, 0, 1, 0), changes(r, 7, 3, 2), changes(r, 70000, 260, 253), edge, changes(r, 9, 5000, 5000)}
}

func invalid() []api.Apply {
	r := rand.New(rand.NewSource(21))
	l := []api.Apply{{Height: -1}, {Height: 1<<20 + 1}, {Burnt: -1}, {Burnt: most + 1}, {Left: -1}, {Left: most + 1}, changes(r, 1, 5001, 0), changes(r, 1, 0, 5001)}
	for _, change := range []func(a *api.Apply){
		func(a *api.Apply) { a.Made[1].Made++ }, func(a *api.Apply) { a.Made[1].Made = 0 }, func(a *api.Apply) { a.Made[1].Spent = 1 }, func(a *api.Apply) { a.Made[1].Spent = 9 }, func(a *api.Apply) { a.Made[1].Spender[31] = 1 }, func(a *api.Apply) { a.Made[1].Value = -1 },
		func(a *api.Apply) { a.Made[1].Value = most + 1 }, func(a *api.Apply) { a.Made[1].Script = make([]byte, 2001) }, func(a *api.Apply) { a.Made[2].Point = a.Made[0].Point }, func(a *api.Apply) { a.Spends[1].Point = a.Spends[0].Point }, func(a *api.Apply) { a.Height++ },
	} {
		a := changes(r, 5, 3, 2)
		change(&a)
		l = append(l, a)
	}
	return l
}

// P20.1
func TestCheck(t *testing.T) {
	for i, a := range valid() {
		if e := coin.Check(a); e != api.OK {
			t.Error(i, e)
		}
	}
	for i, a := range invalid() {
		b, e := coin.Encode(a)
		if e != api.ErrCoin || b != nil || coin.Check(a) != api.ErrCoin {
			t.Error(i, e, coin.Check(a))
		}
	}
	same := changes(rand.New(rand.NewSource(22)), 5, 2, 0)
	same.Spends = []api.Spend{{Point: same.Made[0].Point}, {Point: same.Made[1].Point}}
	if e := coin.Check(same); e != api.OK {
		t.Error("made and spent in one block", e)
	}
}

// P20.1
func TestEncode(t *testing.T) {
	want := slices.Concat([]byte{2, 0, 0, 0}, make([]byte, 32), []byte{1}, make([]byte, 7), make([]byte, 8), []byte{0, 0})
	if b, e := coin.Encode(api.Apply{Height: 2, Burnt: 1}); !bytes.Equal(b, want) || e != api.OK {
		t.Error(b, e)
	}
	a := api.Apply{Height: 258, Block: api.Hash{9}, Burnt: 3, Left: 4, Made: []api.Version{{Point: api.Outpoint{Tx: api.Hash{1}, N: 2}, Made: 258, Value: 5, Script: []byte("ab"), Base: true}, {Made: 258}}, Spends: []api.Spend{{Point: api.Outpoint{Tx: api.Hash{6}, N: 7}, Spender: api.Hash{8}}}}
	hash := func(n byte) []byte { return append([]byte{n}, make([]byte, 31)...) }
	want = slices.Concat([]byte{2, 1, 0, 0}, hash(9), []byte{3, 0, 0, 0, 0, 0, 0, 0, 4, 0, 0, 0, 0, 0, 0, 0, 2}, hash(1), []byte{2, 0, 0, 0, 5, 0, 0, 0, 0, 0, 0, 0, 1, 2, 'a', 'b'}, make([]byte, 36+8+1+1), []byte{1}, hash(6), []byte{7, 0, 0, 0}, hash(8))
	if b, e := coin.Encode(a); !bytes.Equal(b, want) || e != api.OK {
		t.Error(b, e)
	}
}

// P20.1, P20.4
func TestDecode(t *testing.T) {
	for i, a := range valid() {
		b, e := coin.Encode(a)
		if e != api.OK {
			t.Fatal(i, e)
		}
		back, e := coin.Decode(b)
		if !coin.Same(back, a) || e != api.OK {
			t.Error(i, e)
		}
		if again, e := coin.Encode(back); !bytes.Equal(again, b) || e != api.OK {
			t.Error(i, e)
		}
		if back, e := coin.Decode(append(slices.Clone(b), 0)); e != api.ErrCoin || !coin.Same(back, api.Apply{}) {
			t.Error(i, e)
		}
	}
}

// P20.1
func TestDecodeWrong(t *testing.T) {
	a := changes(rand.New(rand.NewSource(23)), 5, 2, 2)
	a.Made[0].Script, a.Made[1].Script = []byte("s"), nil
	good, _ := coin.Encode(a)
	set := func(at int, with ...byte) []byte {
		return slices.Concat(good[:at], with, good[at+len(with):])
	}
	const made, spends = 53, 53 + 47 + 46
	l := [][]byte{set(0, 255, 255, 255, 255), set(0, 1, 0, 16, 0), set(43, 255), set(51, 255), set(made-1, 3), set(made-1, 1), set(made+44, 2), set(made+44, 255), set(made+43, 255), set(spends, 3), set(spends, 1),
		slices.Concat(good[:made-1], []byte{253, 2, 0}, good[made:]), slices.Concat(good[:made-1], []byte{255, 255, 255, 255, 255, 255, 255, 255, 255}), set(made+47, good[made:made+36]...), set(spends+1+68, good[spends+1:spends+37]...)}
	for cut := range good {
		l = append(l, good[:cut])
	}
	for i, b := range l {
		if x, e := coin.Decode(b); e != api.ErrCoin || !coin.Same(x, api.Apply{}) {
			t.Error(i, e)
		}
	}
	if x, e := coin.Decode(set(made+44, 1)); e != api.OK || !x.Made[0].Base {
		t.Error(e)
	}
	if x, e := coin.Decode(set(made+44, 0)); e != api.OK || x.Made[0].Base {
		t.Error(e)
	}
}

// P20.1
func TestCut(t *testing.T) {
	for height, want := range map[int][]byte{0: {0, 0, 0, 0}, 258: {2, 1, 0, 0}, 1 << 20: {0, 0, 16, 0}} {
		b, e := coin.Cut(height)
		if !bytes.Equal(b, want) || e != api.OK {
			t.Error(height, b, e)
		}
		if n, e := coin.CutOf(b); n != height || e != api.OK {
			t.Error(height, n, e)
		}
	}
	for _, height := range []int{-1, 1<<20 + 1, 1 << 40, -1 << 63} {
		if b, e := coin.Cut(height); b != nil || e != api.ErrCoin {
			t.Error(height, b, e)
		}
	}
	for _, b := range [][]byte{nil, {0}, {0, 0, 0}, {0, 0, 0, 0, 0}, {1, 0, 16, 0}, {255, 255, 255, 255}, {0, 0, 0, 128}} {
		if n, e := coin.CutOf(b); n != 0 || e != api.ErrCoin {
			t.Error(b, n, e)
		}
	}
}

// P20.2, P20.4
func TestThere(t *testing.T) {
	v := api.Version{Made: 3, Spent: 5}
	for height, want := range map[int]bool{-1: false, 2: false, 3: true, 4: true, 5: false, 6: false} {
		if coin.There(v, height) != want {
			t.Error(height)
		}
	}
	v.Spent = 0
	if coin.There(v, 2) || !coin.There(v, 3) || !coin.There(v, 1<<60) {
		t.Error("unspent")
	}
	v.Spent = 3
	for height := range 9 {
		if coin.There(v, height) {
			t.Error("made and spent at the same height", height)
		}
	}
}

// P20.2
func TestCompare(t *testing.T) {
	ascending := []api.Version{{}, {Made: 1}, {Made: 300}, {Point: api.Outpoint{N: 1}}, {Point: api.Outpoint{N: 256}}, {Point: api.Outpoint{Tx: api.Hash{31: 1}}}, {Point: api.Outpoint{Tx: api.Hash{31: 1}}, Made: 2}, {Point: api.Outpoint{Tx: api.Hash{1}}}, {Point: api.Outpoint{Tx: api.Hash{1}, N: 7}, Made: 1}}
	for i, a := range ascending {
		a.Value, a.Spent = int64(100-i), i
		for j, b := range ascending {
			want := 0
			if i < j {
				want = -1
			} else if i > j {
				want = 1
			}
			if got := coin.Compare(a, b); got != want {
				t.Error(i, j, got)
			}
		}
	}
}

// P20.2
func TestSame(t *testing.T) {
	r := rand.New(rand.NewSource(24))
	a := changes(r, 5, 2, 2)
	a.Made[0].Script = []byte("script")
	for i, change := range []func(c *api.Apply){
		func(c *api.Apply) { c.Height++ }, func(c *api.Apply) { c.Block[0]++ }, func(c *api.Apply) { c.Burnt++ }, func(c *api.Apply) { c.Left++ }, func(c *api.Apply) { c.Made = c.Made[:1] }, func(c *api.Apply) { c.Spends = c.Spends[:1] },
		func(c *api.Apply) { c.Spends[1].Point.N++ }, func(c *api.Apply) { c.Spends[1].Spender[0]++ }, func(c *api.Apply) { c.Made[1].Point.N++ }, func(c *api.Apply) { c.Made[1].Made++ }, func(c *api.Apply) { c.Made[1].Value++ }, func(c *api.Apply) { c.Made[0].Script[0]++ },
		func(c *api.Apply) { c.Made[0].Base = !c.Made[0].Base }, func(c *api.Apply) { c.Made[0].Spent++ }, func(c *api.Apply) { c.Made[0].Spender[5]++ }, func(c *api.Apply) { c.Made[0], c.Made[1] = c.Made[1], c.Made[0] }, func(c *api.Apply) { c.Spends[0], c.Spends[1] = c.Spends[1], c.Spends[0] },
	} {
		c := coin.Copy(a)
		if !coin.Same(c, a) || !coin.SameVersions(c.Made, a.Made) {
			t.Fatal("shared", i)
		}
		change(&c)
		if coin.Same(c, a) || coin.Same(a, c) {
			t.Error(i)
		}
	}
	if !coin.Same(api.Apply{Made: []api.Version{}, Spends: []api.Spend{}}, coin.Copy(api.Apply{})) || !coin.SameVersions([]api.Version{{}}, []api.Version{{Script: []byte{}}}) || !coin.SameVersions(nil, []api.Version{}) {
		t.Error("nil and empty")
	}
	if coin.SameVersions(a.Made, a.Made[:1]) {
		t.Error("lengths")
	}
}

// P20.3
func TestApart(t *testing.T) {
	a := changes(rand.New(rand.NewSource(25)), 5, 2, 2)
	a.Made[0].Script = []byte("script")
	before := coin.Copy(a)
	b, _ := coin.Encode(a)
	back, _ := coin.Decode(b)
	back.Made[0].Script[0], back.Spends[0].Spender[0] = 'X', 1
	for i := range b {
		b[i] = 0
	}
	if !coin.Same(a, before) || string(back.Made[0].Script) != "Xcript" {
		t.Error("shared")
	}
}
