package node_test

import (
	"bytes"
	"slices"
	"testing"

	"purser/api"
	"purser/block"
	"purser/chain"
	"purser/disk"
	"purser/explorer"
	"purser/merkle"
	"purser/node"
	"purser/octet"
	"purser/pow"
	"purser/target"
	"purser/tx"
)

func params() api.Params {
	return api.Params{Limit: 0x207FFFFF, Every: 2016, Span: 100000, Subsidy: 50, Halving: 10, Maturity: 1, Depth: 20, Extra: 4, Time: 1000}
}

// spot is a block with the headers of the path to it.
type spot struct {
	block api.Block
	path  []api.Header
}

func genesis() spot {
	b, _ := pow.Genesis(params())
	return spot{b, []api.Header{b.Header}}
}

func (s spot) hash() api.Hash { return block.Hash(s.block.Header) }

func (s spot) bytes() []byte {
	b, e := block.Encode(s.block)
	if e != api.OK {
		panic(e)
	}
	return b
}

// command is that of submitting the block.
func (s spot) command() []byte { return append([]byte{api.AskSubmit}, s.bytes()...) }

// base is a coinbase of a height that n makes another one.
func base(height, n int, outs ...api.Out) api.Tx {
	return api.Tx{In: []api.In{{Prev: api.Outpoint{N: 0xFFFFFFFF}, Script: []byte{byte(height), byte(n), byte(n >> 8)}}}, Out: outs}
}

func open(value int64) api.Out { return api.Out{Value: value, Script: []byte{api.OpOne}} }

// next is a block behind this one whose coinbase claims a value.
func (s spot) next(n int, claim int64, txs ...api.Tx) spot {
	return s.with(append([]api.Tx{base(len(s.path), n, open(claim))}, txs...)...)
}

// with is a block of these transactions behind this one.
func (s spot) with(txs ...api.Tx) spot {
	b := api.Block{Txs: txs}
	last := s.path[len(s.path)-1]
	ids, _ := block.Ids(b)
	b.Header = api.Header{Prev: s.hash(), Bits: last.Bits, Time: last.Time + 100}
	b.Header.Root, _ = merkle.Root(ids)
	t, _ := target.Expand(b.Header.Bits)
	for !target.Below(block.Hash(b.Header), t) {
		b.Header.Nonce++
	}
	return spot{b, append(slices.Clone(s.path), b.Header)}
}

// point is an output of a transaction of the block.
func (s spot) point(transaction, n int) api.Outpoint {
	id, _ := tx.Id(s.block.Txs[transaction])
	return api.Outpoint{Tx: id, N: uint32(n)}
}

func spend(p api.Outpoint, values ...int64) api.Tx {
	t := api.Tx{In: []api.In{{Prev: p}}}
	for _, v := range values {
		t.Out = append(t.Out, open(v))
	}
	return t
}

func made(t *testing.T, room int) *disk.Disk {
	t.Helper()
	d, e := disk.New(room)
	if e != api.OK {
		t.Fatal(e)
	}
	return d
}

func opened(t *testing.T, d *disk.Disk, size int) *node.Node {
	t.Helper()
	n, e := node.Open(d, params(), size)
	if e != api.OK {
		t.Fatal("open", e)
	}
	return n
}

// reply is the bytes of a reply.
func reply(e api.Errno, data ...[]byte) []byte {
	var p octet.Pen
	p.Fixed(2, uint64(e))
	p.Raw(data...)
	return p.All()
}

// replies tells of a node that replies otherwise.
func replies(t *testing.T, n *node.Node, command, want []byte) {
	t.Helper()
	if got := n.Do(command); !bytes.Equal(got, want) {
		t.Errorf("reply % x, not % x", got, want)
	}
}

// submits tells of a block that does not get that status.
func submits(t *testing.T, n *node.Node, status int, l ...spot) {
	t.Helper()
	for _, s := range l {
		x := s.hash()
		replies(t, n, s.command(), reply(api.OK, []byte{byte(status), 0, 0}, x[:]))
	}
}

// modelled is the reply of a chain kept in memory.
func modelled(c *chain.Chain, command []byte) []byte {
	r, e := explorer.Decode(command)
	switch {
	case e != api.OK:
		return reply(e)
	case r.Kind == api.AskCheck:
		return reply(api.OK)
	case r.Kind != api.AskSubmit:
		data, e := explorer.Answer(c, r)
		return reply(e, data)
	}
	what, records, e := c.Submit(r.Block)
	if e != api.OK {
		return reply(e)
	}
	c.Replay(records)
	var p octet.Pen
	p.Fixed(1, uint64(what.Status))
	p.Fixed(2, uint64(what.Err))
	p.Raw(what.Hash[:])
	return reply(api.OK, p.All())
}

// state is all that a chain tells of these blocks, and its coins.
func state(c *chain.Chain, spots []spot) []byte {
	var p octet.Pen
	for height := 0; ; height++ {
		x, is := c.At(height)
		if !is {
			break
		}
		p.Raw(x[:])
	}
	for _, x := range c.Orphans() {
		p.Raw(x[:])
	}
	for _, s := range spots {
		n, _ := c.Node(s.hash())
		p.Fixed(8, uint64(10*n.Seen+c.Status(s.hash())))
	}
	for _, v := range c.Store().Every() {
		p.Raw(v.Point.Tx[:], v.Spender[:], v.Script)
		p.Fixed(8, uint64(v.Value*1000+int64(v.Made*30+v.Spent)))
	}
	return p.All()
}
