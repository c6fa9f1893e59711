package chain_test

import (
	"bytes"
	"slices"
	"testing"

	"purser/api"
	"purser/block"
	"purser/chain"
	"purser/coin"
	"purser/merkle"
	"purser/pow"
	"purser/record"
	"purser/target"
	"purser/tx"
)

func params() api.Params {
	return api.Params{Limit: 0x207FFFFF, Every: 2016, Span: 100000, Subsidy: 50, Halving: 10, Maturity: 2, Depth: 3, Extra: 4, Time: 1000}
}

// spot is a block with the headers of the path to it.
type spot struct {
	params api.Params
	block  api.Block
	path   []api.Header
}

func genesis(p api.Params) spot {
	b, _ := pow.Genesis(p)
	return spot{p, b, []api.Header{b.Header}}
}

func (s spot) hash() api.Hash { return block.Hash(s.block.Header) }

func (s spot) height() int { return len(s.path) - 1 }

func (s spot) bytes() []byte {
	b, e := block.Encode(s.block)
	if e != api.OK {
		panic(e)
	}
	return b
}

// next is a block behind this one whose coinbase claims a value; n makes it another one.
func (s spot) next(n int, claim int64, txs ...api.Tx) spot {
	height := s.height() + 1
	base := api.Tx{
		In:  []api.In{{Prev: api.Outpoint{N: 0xFFFFFFFF}, Script: []byte{byte(height), byte(n), byte(n >> 8)}}},
		Out: []api.Out{{Value: claim, Script: []byte{api.OpOne}}},
	}
	return s.with(api.Block{Txs: append([]api.Tx{base}, txs...)})
}

// with is a block of these transactions behind this one, with what its header needs.
func (s spot) with(b api.Block) spot {
	at := func(height int) api.Header { return s.path[height] }
	ids, _ := block.Ids(b)
	b.Header.Root, _ = merkle.Root(ids)
	b.Header.Prev = s.hash()
	b.Header.Bits, _ = pow.Bits(s.params, len(s.path), at)
	b.Header.Time = s.path[s.height()].Time + 100
	return s.mined(b)
}

// mined is a block behind this one, with a nonce that its bits ask for.
func (s spot) mined(b api.Block) spot {
	t, e := target.Expand(b.Header.Bits)
	for e == api.OK && !target.Below(block.Hash(b.Header), t) {
		b.Header.Nonce++
	}
	return spot{s.params, b, append(slices.Clone(s.path), b.Header)}
}

// base is the outpoint that the coinbase makes.
func (s spot) base() api.Outpoint {
	id, _ := tx.Id(s.block.Txs[0])
	return api.Outpoint{Tx: id}
}

// spend spends an outpoint, and pays values to a script that everything unlocks.
func spend(p api.Outpoint, values ...int64) api.Tx {
	t := api.Tx{In: []api.In{{Prev: p}}}
	for _, v := range values {
		t.Out = append(t.Out, api.Out{Value: v, Script: []byte{api.OpOne}})
	}
	return t
}

func made(t *testing.T, p api.Params) *chain.Chain {
	t.Helper()
	c, e := chain.New(p)
	if e != api.OK {
		t.Fatal(e)
	}
	return c
}

// becomes submits a block and does what is told; it tells of another status, other kinds of records, or a chain that Submit changed.
func becomes(t *testing.T, c *chain.Chain, s spot, status int, why api.Errno, kinds ...int) []api.Record {
	t.Helper()
	before := state(c)
	reply, records, e := c.Submit(s.bytes())
	if e != api.OK || reply != (api.Reply{Status: status, Err: why, Hash: s.hash()}) {
		t.Fatalf("reply %v, error %d, not status %d (%d)", reply, e, status, why)
	}
	var got []int
	for _, r := range records {
		got = append(got, r.Kind)
	}
	if !slices.Equal(got, kinds) {
		t.Fatalf("records of kinds %v, not %v", got, kinds)
	}
	if !bytes.Equal(state(c), before) {
		t.Fatal("Submit changed the chain")
	}
	if e := c.Replay(records); e != api.OK {
		t.Fatal("replay", e)
	}
	if c.Status(s.hash()) != status {
		t.Fatalf("status %d, not %d", c.Status(s.hash()), status)
	}
	return records
}

// active submits blocks that become active at once.
func active(t *testing.T, c *chain.Chain, l ...spot) {
	t.Helper()
	for _, s := range l {
		becomes(t, c, s, api.StatusActive, api.OK, api.KindBlock, api.KindApply)
	}
}

// side submits blocks that stay aside.
func side(t *testing.T, c *chain.Chain, l ...spot) {
	t.Helper()
	for _, s := range l {
		becomes(t, c, s, api.StatusSide, api.OK, api.KindBlock)
	}
}

// fails tells of a submission that does not fail so.
func fails(t *testing.T, c *chain.Chain, b []byte, want api.Errno) {
	t.Helper()
	before := state(c)
	reply, records, e := c.Submit(b)
	if e != want || reply != (api.Reply{}) || records != nil || !bytes.Equal(state(c), before) {
		t.Errorf("error %d, not %d: %v, %v", e, want, reply, records)
	}
}

// state is all that a chain tells of its blocks and coins.
func state(c *chain.Chain) []byte {
	var b []byte
	s := c.Store()
	for height := 0; ; height++ {
		x, is := c.At(height)
		if !is {
			break
		}
		info, _ := s.Info(height)
		cut, _ := coin.Cut(info.Coins)
		b = slices.Concat(b, x[:], info.Block[:], cut)
	}
	for _, x := range c.Orphans() {
		b = append(b, x[:]...)
	}
	for _, v := range s.Every() {
		b = slices.Concat(b, v.Point.Tx[:], []byte{byte(v.Point.N), byte(v.Made), byte(v.Spent), byte(v.Value)}, v.Script, v.Spender[:])
	}
	return b
}

// payload tells of a record with another payload.
func payload(t *testing.T, r api.Record, kind int, want []byte) {
	t.Helper()
	if !record.Same([]api.Record{r}, []api.Record{{Kind: kind, Payload: want}}) {
		t.Errorf("record of kind %d with % x, not %d with % x", r.Kind, r.Payload, kind, want)
	}
}

func hashBytes(s spot) []byte {
	x := s.hash()
	return x[:]
}
