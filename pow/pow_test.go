package pow_test

import (
	"math/rand"
	"slices"
	"testing"

	"purser/api"
	"purser/block"
	"purser/pow"
	"purser/sha"
	"purser/target"
	"purser/tx"
	"purser/wide"
)

func params() api.Params {
	return api.Params{Limit: 0x207FFFFF, Every: 4, Span: 400, Subsidy: 50, Halving: 10, Maturity: 2, Depth: 5, Extra: 3, Time: 1000}
}

func changed(change func(p *api.Params)) api.Params {
	p := params()
	change(&p)
	return p
}

func invalid() []api.Params {
	return []api.Params{
		{}, changed(func(p *api.Params) { p.Limit = 0 }), changed(func(p *api.Params) { p.Limit = 0x04923456 }), changed(func(p *api.Params) { p.Limit = 0x01003456 }), changed(func(p *api.Params) { p.Limit = 0x2200FFFF }),
		changed(func(p *api.Params) { p.Every = 1 }), changed(func(p *api.Params) { p.Every = 2017 }), changed(func(p *api.Params) { p.Every = -4 }), changed(func(p *api.Params) { p.Span = 0 }), changed(func(p *api.Params) { p.Span = -1 }), changed(func(p *api.Params) { p.Span = 1 << 31 }),
		changed(func(p *api.Params) { p.Halving = 0 }), changed(func(p *api.Params) { p.Halving = -1 }), changed(func(p *api.Params) { p.Halving, p.Subsidy = 1<<31, 0 }), changed(func(p *api.Params) { p.Subsidy = -1 }),
		changed(func(p *api.Params) { p.Subsidy, p.Halving = 105000000000001, 10 }), changed(func(p *api.Params) { p.Subsidy, p.Halving = 1050000000000001, 1 }), changed(func(p *api.Params) { p.Subsidy = 1<<63 - 1 }), changed(func(p *api.Params) { p.Subsidy, p.Halving = 1<<33, 1<<31-1 }),
		changed(func(p *api.Params) { p.Maturity = 0 }), changed(func(p *api.Params) { p.Maturity = 10001 }), changed(func(p *api.Params) { p.Depth = 0 }), changed(func(p *api.Params) { p.Depth = 21 }), changed(func(p *api.Params) { p.Extra = -1 }), changed(func(p *api.Params) { p.Extra = 51 }),
	}
}

// branch is headers of these times, all with the highest target.
func branch(times ...uint32) func(int) api.Header {
	return func(height int) api.Header { return api.Header{Time: times[height], Bits: 0x207FFFFF} }
}

// P23.1
func TestCheck(t *testing.T) {
	for i, p := range []api.Params{
		params(), changed(func(p *api.Params) { p.Every = 2 }), changed(func(p *api.Params) { p.Every = 2016 }), changed(func(p *api.Params) { p.Span = 1 }), changed(func(p *api.Params) { p.Span = 1<<31 - 1 }), changed(func(p *api.Params) { p.Halving, p.Subsidy = 1, 1050000000000000 }),
		changed(func(p *api.Params) { p.Halving, p.Subsidy = 1<<31-1, 0 }), changed(func(p *api.Params) { p.Subsidy = 105000000000000 }), changed(func(p *api.Params) { p.Maturity = 1 }), changed(func(p *api.Params) { p.Maturity = 10000 }), changed(func(p *api.Params) { p.Depth = 1 }),
		changed(func(p *api.Params) { p.Depth = 20 }), changed(func(p *api.Params) { p.Extra = 0 }), changed(func(p *api.Params) { p.Extra = 50 }), changed(func(p *api.Params) { p.Limit = 0x01010000 }), changed(func(p *api.Params) { p.Limit = 0x2100FFFF }),
	} {
		if e := pow.Check(p); e != api.OK {
			t.Error(i, e)
		}
	}
	for i, p := range invalid() {
		b, e := pow.Genesis(p)
		_, f := pow.Bits(p, 1, branch(1))
		if pow.Check(p) != api.ErrPow || e != api.ErrPow || !block.Same(b, api.Block{}) || f != api.ErrPow || pow.Own(p, api.Header{}) != api.ErrPow || pow.Judge(p, api.Header{}, 1, branch(1)) != api.ErrPow {
			t.Error(i, pow.Check(p), e, f)
		}
	}
}

// P23.1
func TestGenesis(t *testing.T) {
	for _, p := range []api.Params{params(), changed(func(p *api.Params) { p.Time, p.Subsidy, p.Limit = 77, 0, 0x1D00FFFF })} {
		x := api.Tx{Version: 1, In: []api.In{{Prev: api.Outpoint{N: 0xFFFFFFFF}, Script: []byte("genesis"), Seq: 0xFFFFFFFF}}, Out: []api.Out{{Value: p.Subsidy, Script: []byte{0x6A}}}}
		b, _ := tx.Encode(x)
		want := api.Block{Header: api.Header{Version: 1, Root: sha.Twice(b), Time: p.Time, Bits: p.Limit}, Txs: []api.Tx{x}}
		if got, e := pow.Genesis(p); !block.Same(got, want) || e != api.OK {
			t.Error(got, e)
		}
	}
}

// P23.1
func TestWork(t *testing.T) {
	for bits, want := range map[uint32]uint64{0x207FFFFF: 2, 0: 0, 0x1D00FFFF: 4295032833, 0x04923456: 0, 0x01003456: 0} {
		if got := pow.Work(bits); got != wide.Of(want) {
			t.Error(bits, got)
		}
	}
}

// P23.2
func TestBits(t *testing.T) {
	spaced := func(height int) api.Header { return api.Header{Time: uint32(100 * height), Bits: 0x207FFFFF} }
	for n, want := range map[int]uint32{1: 0x207FFFFF, 2: 0x207FFFFF, 3: 0x207FFFFF, 4: 0x205FFFFF, 5: 0x207FFFFF, 8: 0x205FFFFF} {
		if got, e := pow.Bits(params(), n, spaced); got != want || e != api.OK {
			t.Errorf("%d: %08X, error %d", n, got, e)
		}
	}
	for _, n := range []int{0, -1, -4, -1 << 63} {
		if got, e := pow.Bits(params(), n, spaced); got != 0 || e != api.ErrPow {
			t.Error(n, got, e)
		}
	}
	if got, e := pow.Bits(params(), 4, nil); got != 0 || e != api.ErrPow {
		t.Error(got, e)
	}
	for _, n := range []int{1, 4} {
		for _, bits := range []uint32{0, 0x04923456, 0x2200FFFF} {
			if got, e := pow.Bits(params(), n, func(int) api.Header { return api.Header{Bits: bits} }); got != 0 || e != api.ErrBits {
				t.Error(n, bits, got, e)
			}
		}
	}
	if got, e := pow.Bits(params(), 3, func(int) api.Header { return api.Header{Bits: 0x1D00FFFF} }); got != 0x1D00FFFF || e != api.OK {
		t.Error(got, e)
	}
}

// P23.2, P23.5
func TestRetarget(t *testing.T) {
	for i, x := range []struct {
		first, last uint32
		bits        uint32
		span        int64
		want        uint32
	}{
		{0, 400, 0x1D00FFFF, 400, 0x1D00FFFF}, {0, 800, 0x1D00FFFF, 400, 0x1D01FFFE}, {0, 1600, 0x1D00FFFF, 400, 0x1D03FFFC}, {0, 1601, 0x1D00FFFF, 400, 0x1D03FFFC}, {0, 1 << 31, 0x1D00FFFF, 400, 0x1D03FFFC},
		{0, 100, 0x1D00FFFF, 400, 0x1C3FFFC0}, {0, 99, 0x1D00FFFF, 400, 0x1C3FFFC0}, {0, 0, 0x1D00FFFF, 400, 0x1C3FFFC0}, {500, 0, 0x1D00FFFF, 400, 0x1C3FFFC0}, {1<<32 - 1, 0, 0x1D00FFFF, 400, 0x1C3FFFC0},
		{0, 0, 0x1D00FFFF, 1, 0x1D00FFFF}, {0, 0, 0x1D00FFFF, 3, 0x1C555500}, {0, 0, 0x1D00FFFF, 7, 0x1C249224}, {0, 1600, 0x207FFFFF, 400, 0x207FFFFF}, {0, 500, 0x207FFFFF, 400, 0x207FFFFF}, {0, 399, 0x207FFFFF, 400, 0x207FAE13},
		{0, 100, 0x01010000, 400, 0x01010000}, {0, 1<<32 - 1, 0x1D00FFFF, 1<<31 - 1, 0x1D01FFFE},
	} {
		p := changed(func(p *api.Params) { p.Span = x.span })
		at := func(height int) api.Header {
			switch height {
			case 4:
				return api.Header{Time: x.first, Bits: 0x03123456}
			case 7:
				return api.Header{Time: x.last, Bits: x.bits}
			}
			t.Error("asked for", height)
			return api.Header{}
		}
		got, e := pow.Bits(p, 8, at)
		if got != x.want || e != api.OK {
			t.Errorf("%d: %08X, not %08X, error %d", i, got, x.want, e)
		}
	}
}

// P23.5
func TestRetargetBounds(t *testing.T) {
	r := rand.New(rand.NewSource(23))
	for range 3000 {
		p := changed(func(p *api.Params) {
			p.Limit = 0x03000000 + uint32(r.Intn(28))<<24 + uint32(1+r.Intn(0x7F))<<16 + uint32(r.Intn(1<<16))
			p.Span = 1 + r.Int63n(1<<31-1)>>r.Intn(31)
		})
		limit, e := target.Expand(p.Limit)
		if e != api.OK {
			t.Fatal(e)
		}
		old, _ := target.Scale(limit, 1+uint64(r.Intn(1000)), 1000, limit)
		bits, _ := target.Compact(old)
		old, _ = target.Expand(bits)
		got, e := pow.Bits(p, 4, func(height int) api.Header { return api.Header{Time: r.Uint32() >> r.Intn(32), Bits: bits} })
		now, f := target.Expand(got)
		if e != api.OK || f != api.OK || wide.Compare(now, limit) > 0 || wide.Compare(now, target.Sum(old, old, old, old)) > 0 {
			t.Fatalf("%08X of %08X, error %d, %d", got, bits, e, f)
		}
	}
}

// P23.2
func TestMedian(t *testing.T) {
	for i, x := range []struct {
		times []uint32
		want  uint32
	}{{[]uint32{7}, 7}, {[]uint32{7, 5}, 7}, {[]uint32{7, 5, 6}, 6}, {[]uint32{4, 1, 3, 2}, 3}, {[]uint32{1, 2, 3, 4, 5, 6, 7, 8, 9, 10, 11}, 6}, {[]uint32{100, 1, 2, 3, 4, 5, 6, 7, 8, 9, 10, 11}, 6}, {[]uint32{100, 100, 100, 11, 10, 9, 8, 7, 6, 5, 4, 3, 2, 1}, 6}, {[]uint32{0, 0, 1<<32 - 1, 1<<32 - 1}, 1<<32 - 1}} {
		lowest := len(x.times)
		at := func(height int) api.Header {
			lowest = min(lowest, height)
			return api.Header{Time: x.times[height]}
		}
		if got := pow.Median(len(x.times), at); got != x.want || lowest != max(0, len(x.times)-11) {
			t.Error(i, got, lowest)
		}
	}
	if pow.Median(0, branch(5)) != 0 || pow.Median(-3, branch(5)) != 0 || pow.Median(1, nil) != 0 {
		t.Error("none")
	}
}

// mined is a header whose hash is below its target, or above it.
func mined(h api.Header, below bool) api.Header {
	t, _ := target.Expand(h.Bits)
	for target.Below(block.Hash(h), t) != below {
		h.Nonce++
	}
	return h
}

// P23.3, P23.5
func TestJudge(t *testing.T) {
	p := params()
	at := branch(10, 20, 30, 40, 50)
	for i, x := range []struct {
		h    api.Header
		n    int
		want api.Errno
	}{
		{mined(api.Header{Bits: 0x207FFFFF, Time: 31}, true), 5, api.OK}, {mined(api.Header{Bits: 0x207FFFFF, Time: 30}, true), 5, api.ErrTime}, {mined(api.Header{Bits: 0x207FFFFF, Time: 31}, false), 5, api.ErrWork}, {mined(api.Header{Bits: 0x207FFFFF, Time: 30}, false), 5, api.ErrTime},
		{mined(api.Header{Bits: 0x207FFFFE, Time: 31}, true), 5, api.ErrBits}, {mined(api.Header{Bits: 0x207FFFFF, Time: 31}, true), 4, api.ErrBits}, {mined(api.Header{Bits: 0x201FFFFF, Time: 31}, true), 4, api.OK}, {mined(api.Header{Bits: 0x207FFFFF, Time: 1<<32 - 1}, true), 5, api.OK},
		{api.Header{Bits: 0, Time: 0}, 5, api.ErrBits}, {api.Header{}, 0, api.ErrPow}, {mined(api.Header{Bits: 0x201FFFFF, Time: 31}, false), 4, api.ErrWork},
	} {
		if e := pow.Judge(p, x.h, x.n, at); e != x.want {
			t.Error(i, e, x.want)
		}
		if x.want == api.OK && pow.Own(p, x.h) != api.OK {
			t.Error(i, "own")
		}
	}
	if e := pow.Judge(p, api.Header{}, 5, nil); e != api.ErrPow {
		t.Error(e)
	}
	if e := pow.Judge(p, api.Header{}, 5, func(int) api.Header { return api.Header{} }); e != api.ErrBits {
		t.Error(e)
	}
}

// P23.3
func TestOwn(t *testing.T) {
	p := changed(func(p *api.Params) { p.Limit = 0x201FFFFF })
	for i, x := range []struct {
		h    api.Header
		want api.Errno
	}{
		{mined(api.Header{Bits: 0x201FFFFF}, true), api.OK}, {mined(api.Header{Bits: 0x201FFFFF}, false), api.ErrWork}, {mined(api.Header{Bits: 0x200FFFFF}, true), api.OK}, {mined(api.Header{Bits: 0x207FFFFF}, true), api.ErrBits}, {mined(api.Header{Bits: 0x20200000}, true), api.ErrBits},
		{api.Header{}, api.ErrBits}, {api.Header{Bits: 0x04923456}, api.ErrBits}, {api.Header{Bits: 0x2200FFFF}, api.ErrBits},
	} {
		if e := pow.Own(p, x.h); e != x.want {
			t.Error(i, e, x.want)
		}
	}
}

// P23.2, P23.3
func TestHeightsAsked(t *testing.T) {
	for n := 1; n < 30; n++ {
		var asked []int
		pow.Judge(params(), mined(api.Header{Bits: 0x207FFFFF, Time: 5000}, true), n, func(height int) api.Header {
			asked = append(asked, height)
			return api.Header{Bits: 0x207FFFFF, Time: uint32(100 * height)}
		})
		if slices.Min(asked) < 0 || slices.Max(asked) > n-1 {
			t.Error(n, asked)
		}
	}
}

// P23.4
func TestApart(t *testing.T) {
	b, _ := pow.Genesis(params())
	b.Txs[0].In[0].Script[0], b.Txs[0].Out[0].Script[0] = 'X', 0
	if again, _ := pow.Genesis(params()); string(again.Txs[0].In[0].Script) != "genesis" || again.Txs[0].Out[0].Script[0] != 0x6A {
		t.Error("shared")
	}
}
