package rules_test

import (
	"math/rand"
	"testing"

	"purser/api"
	"purser/coin"
	"purser/rules"
	"purser/sign"
	"purser/spend"
	"purser/store"
	"purser/tx"
)

const most = 2100000000000000

func params() api.Params { return api.Params{Subsidy: 50, Halving: 10, Maturity: 2} }

// open is a locking script that everything unlocks.
func open() []byte { return []byte{api.OpOne} }

func out(value int64, script ...byte) api.Out { return api.Out{Value: value, Script: script} }

// coinbase is one with a number that makes it another one.
func coinbase(n int, outs ...api.Out) api.Tx {
	return api.Tx{In: []api.In{{Prev: api.Outpoint{N: 0xFFFFFFFF}, Script: []byte{2, byte(n), byte(n >> 8)}}}, Out: outs}
}

func spending(points []api.Outpoint, outs ...api.Out) api.Tx {
	t := api.Tx{Out: outs}
	for _, p := range points {
		t.In = append(t.In, api.In{Prev: p})
	}
	return t
}

func id(t api.Tx) api.Hash {
	h, e := tx.Id(t)
	if e != api.OK {
		panic(e)
	}
	return h
}

func point(t api.Tx, n int) api.Outpoint { return api.Outpoint{Tx: id(t), N: uint32(n)} }

func points(t api.Tx, numbers ...int) []api.Outpoint {
	var l []api.Outpoint
	for _, n := range numbers {
		l = append(l, point(t, n))
	}
	return l
}

func block(txs ...api.Tx) api.Block { return api.Block{Txs: txs} }

// connected tells of a block that does not connect, and applies it.
func connected(t *testing.T, p api.Params, s *store.Store, b api.Block) api.Apply {
	t.Helper()
	a, e := rules.Connect(p, s, b, api.Hash{byte(s.Tip() + 2)})
	if e != api.OK {
		t.Fatal("connect", e)
	}
	if e := s.Apply(a); e != api.OK {
		t.Fatal("apply", e)
	}
	return a
}

func fails(t *testing.T, what string, p api.Params, s *store.Store, b api.Block, want api.Errno) {
	t.Helper()
	a, e := rules.Connect(p, s, b, api.Hash{9})
	if e != want || !coin.Same(a, api.Apply{}) {
		t.Errorf("%s: error %d, not %d", what, e, want)
	}
	fees, f := rules.Fees(p, s, b)
	if want != api.ErrClaim && (f != want || fees != 0) || want == api.ErrClaim && f != api.OK {
		t.Errorf("%s: fees %d, error %d, not %d", what, fees, f, want)
	}
}

// first is the coinbase of the block at height 0 of begun.
func first() api.Tx {
	return coinbase(0, out(20, open()...), out(10, open()...), out(5, api.OpReturn), out(15, open()...))
}

// begun is a store with some blocks, of which the coins of the first one are mature.
func begun(t *testing.T) *store.Store {
	t.Helper()
	s := store.New()
	connected(t, params(), s, block(first()))
	connected(t, params(), s, block(coinbase(1, out(50, open()...))))
	return s
}

// P25.1
func TestForm(t *testing.T) {
	base, p := coinbase(0, out(1)), points(first(), 0, 1)
	for i, b := range []api.Block{
		block(base), block(base, spending(p, out(1))), block(coinbase(0, out(most))), block(coinbase(0, out(most-1), out(1), out(0))), block(base, spending(p[:1], out(1)), spending(p[:1], out(1))),
	} {
		if e := rules.Form(b); e != api.OK {
			t.Error(i, e)
		}
	}
	twoInputs := coinbase(0, out(1))
	twoInputs.In = append(twoInputs.In, api.In{})
	for i, b := range []api.Block{
		{}, block(spending(p, out(1))), block(base, base), block(spending(p, out(1)), base), block(base, spending(p)), block(base, spending(nil, out(1))), block(coinbase(0)), block(base, spending([]api.Outpoint{p[0], p[1], p[0]}, out(1))),
		block(coinbase(0, out(-1))), block(coinbase(0, out(most+1))), block(coinbase(0, out(most), out(1))), block(base, spending(p, out(-1))), block(base, spending(p, out(most-2), out(3))), block(base, spending(p, out(5), out(-1))), block(base, spending(p, out(1, make([]byte, 2001)...))), block(twoInputs),
		block(coinbase(0, out(1<<63-1), out(1<<63-1), out(2))),
	} {
		if e := rules.Form(b); e != api.ErrRules {
			t.Error(i, e)
		}
		fails(t, "form", params(), begun(t), b, api.ErrRules)
		fails(t, "nil", params(), nil, b, api.ErrNil)
	}
}

// P25.1
func TestSubsidy(t *testing.T) {
	for height, want := range map[int]int64{-1: 0, -1 << 63: 0, 0: 50, 9: 50, 10: 25, 19: 25, 20: 12, 30: 6, 40: 3, 50: 1, 59: 1, 60: 0, 630: 0, 1 << 62: 0} {
		if got := rules.Subsidy(params(), height); got != want {
			t.Error(height, got)
		}
	}
	for i, x := range []struct {
		subsidy         int64
		halving, height int
		want            int64
	}{
		{50, 0, 1000, 50}, {50, -1, 5, 50}, {50, 0, -1, 0}, {-5, 10, 0, 0}, {-5, 0, 0, 0}, {most + 1, 10, 0, most}, {most, 10, 0, most}, {1<<63 - 1, 10, 10, most / 2}, {-1 << 63, 1, 1, 0}, {most, 1, 50, 1}, {most, 1, 51, 0}, {most, 1, 62, 0}, {most, 1, 63, 0}, {most, 1, 64, 0}, {most, 1, 200, 0}, {most, 1, 1<<63 - 1, 0},
	} {
		if got := rules.Subsidy(api.Params{Subsidy: x.subsidy, Halving: x.halving}, x.height); got != x.want {
			t.Error(i, got, x.want)
		}
	}
}

// P25.2
func TestClaim(t *testing.T) {
	s := begun(t)
	fails(t, "51", params(), s, block(coinbase(2, out(51, open()...))), api.ErrClaim)
	fails(t, "51 burnt", params(), s, block(coinbase(2, out(51, api.OpReturn))), api.ErrClaim)
	for claimed, left := range map[int64]int64{50: 0, 20: 30, 0: 50} {
		a, e := rules.Connect(params(), s, block(coinbase(2, out(claimed, open()...))), api.Hash{7})
		if e != api.OK || a.Left != left || a.Burnt != 0 || a.Height != 2 || a.Block != (api.Hash{7}) {
			t.Error(claimed, a, e)
		}
	}
	pay := spending(points(first(), 0), out(12, open()...), out(1, api.OpReturn)) // a fee of 7
	fails(t, "with fees", params(), s, block(coinbase(2, out(58)), pay), api.ErrClaim)
	a, e := rules.Connect(params(), s, block(coinbase(2, out(57)), pay), api.Hash{})
	if e != api.OK || a.Left != 0 || a.Burnt != 1 {
		t.Error(a, e)
	}
	if fees, e := rules.Fees(params(), s, block(coinbase(2, out(58)), pay)); fees != 7 || e != api.OK {
		t.Error(fees, e)
	}
}

// P25.2
func TestChanges(t *testing.T) {
	s := begun(t)
	long := make([]byte, 521)
	base := coinbase(2, out(3, open()...), out(2, long...), out(1, open()...))
	one := spending(points(first(), 1, 0), out(4, api.OpReturn, 5), out(25, open()...))
	two := spending([]api.Outpoint{point(one, 1), point(first(), 3)}, out(40), out(0, make([]byte, 520)...))
	a, e := rules.Connect(params(), s, block(base, one, two), api.Hash{7})
	if e != api.OK {
		t.Fatal(e)
	}
	version := func(x api.Tx, n int, base bool) api.Version {
		return api.Version{Point: point(x, n), Made: 2, Value: x.Out[n].Value, Script: x.Out[n].Script, Base: base}
	}
	want := api.Apply{Height: 2, Block: api.Hash{7}, Burnt: 2 + 4, Left: 50 + 1 + 0 - 6,
		Made:   []api.Version{version(base, 0, true), version(base, 2, true), version(one, 1, false), version(two, 0, false), version(two, 1, false)},
		Spends: []api.Spend{{Point: point(first(), 1), Spender: id(one)}, {Point: point(first(), 0), Spender: id(one)}, {Point: point(one, 1), Spender: id(two)}, {Point: point(first(), 3), Spender: id(two)}}}
	if !coin.Same(a, want) {
		t.Errorf("%+v, not %+v", a, want)
	}
	if e := s.Apply(a); e != api.OK {
		t.Error(e)
	}
}

// P25.2
func TestMissing(t *testing.T) {
	s := begun(t)
	base := coinbase(2, out(1, open()...))
	one := spending(points(first(), 0), out(20, open()...))
	fails(t, "none such", params(), s, block(base, spending([]api.Outpoint{{Tx: api.Hash{1}}}, out(0))), api.ErrMissing)
	fails(t, "no such number", params(), s, block(base, spending(points(first(), 9), out(0))), api.ErrMissing)
	fails(t, "burnt", params(), s, block(base, spending(points(first(), 2), out(0))), api.ErrMissing)
	fails(t, "spent in the block", params(), s, block(base, one, spending(points(first(), 0), out(1))), api.ErrMissing)
	fails(t, "made later in the block", params(), s, block(base, spending(points(one, 0), out(1)), one), api.ErrMissing)
	fails(t, "second input", params(), s, block(base, spending(append(points(first(), 0), api.Outpoint{}), out(1))), api.ErrMissing)
	connected(t, params(), s, block(base, one))
	fails(t, "spent earlier", params(), s, block(coinbase(3, out(1)), spending(points(first(), 0), out(1))), api.ErrMissing)
	fails(t, "on an empty store", params(), store.New(), block(base, one), api.ErrMissing)
}

// P25.2
func TestImmature(t *testing.T) {
	s := store.New()
	old := coinbase(0, out(50, open()...))
	connected(t, params(), s, block(old))
	pay := spending(points(old, 0), out(50, open()...))
	own := coinbase(1, out(50, open()...))
	fails(t, "its own coinbase", params(), s, block(own, spending(points(own, 0), out(1))), api.ErrImmature)
	fails(t, "one block early", params(), s, block(own, pay), api.ErrImmature)
	fails(t, "missing comes first by inputs", params(), s, block(own, spending([]api.Outpoint{{}, point(old, 0)}, out(1))), api.ErrMissing)
	fails(t, "immature comes first by inputs", params(), s, block(own, spending([]api.Outpoint{point(old, 0), {}}, out(1))), api.ErrImmature)
	connected(t, params(), s, block(own))
	further := spending(points(pay, 0), out(50, open()...)) // what is not of a coinbase may be spent at once
	connected(t, params(), s, block(coinbase(2, out(0)), pay, further))
	none := params()
	none.Maturity = 0
	if _, e := rules.Connect(none, s, block(coinbase(3, out(0)), spending(points(own, 0), out(1))), api.Hash{}); e != api.OK {
		t.Error(e)
	}
	now := coinbase(3, out(50, open()...))
	if _, e := rules.Connect(none, s, block(now, spending(points(now, 0), out(1))), api.Hash{}); e != api.OK {
		t.Error(e)
	}
}

// P25.2
func TestScripts(t *testing.T) {
	s := store.New()
	secret := api.Hash{42}
	lock := spend.PayKey(sign.Public(secret))
	old := coinbase(0, out(20, lock...), out(10, open()...), out(5))
	connected(t, params(), s, block(old))
	connected(t, params(), s, block(coinbase(1, out(0))))
	pay := spending(points(old, 1, 0), out(30))
	fails(t, "not signed", params(), s, block(coinbase(2, out(1)), pay), api.ErrScript)
	pay.In[1].Script, _ = spend.Signed(api.Hash{43}, pay, 1, lock)
	fails(t, "signed by another", params(), s, block(coinbase(2, out(1)), pay), api.ErrScript)
	pay.In[1].Script, _ = spend.Signed(secret, pay, 1, lock)
	fails(t, "an empty lock", params(), s, block(coinbase(2, out(1)), spending(points(old, 2), out(99))), api.ErrScript)
	more := spending(points(old, 1, 0), out(31))
	more.In[1].Script, _ = spend.Signed(secret, more, 1, lock)
	fails(t, "more than there is", params(), s, block(coinbase(2, out(1)), more), api.ErrSpends)
	fails(t, "script ahead of sum", params(), s, block(coinbase(2, out(1)), spending(points(old, 0), out(31))), api.ErrScript)
	connected(t, params(), s, block(coinbase(2, out(1)), pay))
}

// P25.2
func TestTwice(t *testing.T) {
	s := begun(t)
	fails(t, "a coinbase that is there", params(), s, block(coinbase(1, out(50, open()...))), api.ErrTwice)
	fails(t, "burnt and not, ahead of the rest", params(), s, block(first(), spending([]api.Outpoint{{}}, out(1))), api.ErrTwice)
	base := coinbase(2, out(1, open()...))
	pay := spending(points(first(), 0), out(20, open()...))
	connected(t, params(), s, block(base, pay))
	fails(t, "ahead of missing", params(), s, block(coinbase(3, out(1)), pay), api.ErrTwice)
	gone := spending(append(points(pay, 0), points(first(), 1, 3)...), out(1, open()...))
	connected(t, params(), s, block(coinbase(3, out(1, open()...)), gone))
	// Of the first coinbase only what was burnt is left: none of its outputs is there.
	a := connected(t, params(), s, block(first()))
	if len(a.Made) != 3 || a.Height != 4 {
		t.Error(a)
	}
}

// P25.2
func TestTwiceInBlock(t *testing.T) {
	none := params()
	none.Maturity = 0
	s := store.New()
	connected(t, none, s, block(coinbase(0, out(9, open()...))))
	// The coinbase makes again what the store has not: a transaction like one of the block comes when all that one made is spent.
	start := coinbase(0, out(9, open()...))
	pay := spending(points(start, 0), out(9, open()...))
	back := spending(points(pay, 0), out(9, open()...))
	fails(t, "there in the block", none, s, block(coinbase(1, out(0)), pay, pay), api.ErrTwice)
	fails(t, "spent in the block", none, s, block(coinbase(1, out(0)), pay, back, pay), api.ErrTwice)
	connected(t, none, s, block(coinbase(1, out(0, open()...)), pay))
	connected(t, none, s, block(coinbase(2, out(0, open()...)), back))
	fails(t, "spent in a block before, but no input", none, s, block(coinbase(3, out(0)), pay), api.ErrMissing)
	again := connected(t, none, s, block(coinbase(0, out(9, open()...)), pay))
	if len(again.Made) != 2 || len(again.Spends) != 1 {
		t.Error(again)
	}
	fails(t, "there once more", none, s, block(coinbase(4, out(0)), pay), api.ErrTwice)
}

// P25.4
func TestConsequences(t *testing.T) {
	r := rand.New(rand.NewSource(25))
	p := api.Params{Subsidy: 1000, Halving: 7, Maturity: 3}
	s := store.New()
	var coins []api.Outpoint
	for height := range 60 {
		before, _ := s.Info(height - 1)
		var txs []api.Tx
		for len(coins) > 0 && r.Intn(3) > 0 {
			i := r.Intn(len(coins))
			v, there, _ := s.Coin(coins[i], s.Tip())
			coins = append(coins[:i], coins[i+1:]...)
			if !there || v.Base && height-v.Made < 3 {
				continue
			}
			part := r.Int63n(v.Value + 1)
			x := spending([]api.Outpoint{v.Point}, out(part, open()...), out(r.Int63n(v.Value-part+1), byte(api.OpReturn+r.Intn(2)*0xE7)))
			txs = append(txs, x)
			coins = append(coins, point(x, 0))
		}
		fees, e := rules.Fees(p, s, block(append([]api.Tx{coinbase(height, out(0))}, txs...)...))
		if e != api.OK {
			t.Fatal(height, e)
		}
		subsidy := rules.Subsidy(p, height)
		base := coinbase(height, out(r.Int63n(subsidy+fees+1), open()...))
		coins = append(coins, point(base, 0))
		a := connected(t, p, s, block(append([]api.Tx{base}, txs...)...))
		after, _ := s.Info(height)
		if after.Total != before.Total+subsidy-a.Burnt-a.Left {
			t.Error(height, before, after, a)
		}
	}
	if len(s.Every()) < 70 {
		t.Error(len(s.Every()))
	}
}

// P25.3
func TestApart(t *testing.T) {
	s := begun(t)
	b := block(coinbase(2, out(1, open()...)), spending(points(first(), 0), out(20, open()...)))
	a, _ := rules.Connect(params(), s, b, api.Hash{})
	a.Made[0].Script[0], a.Made[1].Script[0] = 0, 0
	if b.Txs[0].Out[0].Script[0] != api.OpOne || b.Txs[1].Out[0].Script[0] != api.OpOne || s.Tip() != 1 || len(s.Every()) != 4 {
		t.Error("shared")
	}
	again, e := rules.Connect(params(), s, b, api.Hash{})
	if e != api.OK || again.Made[0].Script[0] != api.OpOne {
		t.Error(e)
	}
}
