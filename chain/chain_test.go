package chain_test

import (
	"bytes"
	"math/rand"
	"slices"
	"testing"

	"purser/api"
	"purser/block"
	"purser/chain"
	"purser/coin"
	"purser/record"
	"purser/rules"
	"purser/store"
	"purser/tx"
)

// P28.1
func TestNew(t *testing.T) {
	p := api.Params{Limit: 0x207FFFFF, Every: 4, Span: 0x01020304, Subsidy: 0x0102030405, Halving: 7, Maturity: 300, Depth: 9, Extra: 10, Time: 0x0B0C0D0E}
	g := genesis(p)
	c := made(t, p)
	if x, is := c.At(0); x != g.hash() || !is || c.Tip() != g.hash() || c.Status(g.hash()) != api.StatusActive || len(c.Orphans()) != 0 {
		t.Error(x, is)
	}
	if b, is := c.Block(g.hash()); !block.Same(b, g.block) || !is {
		t.Error(is)
	}
	if n, is := c.Node(g.hash()); n.Header != g.block.Header || n.Height != 0 || !is {
		t.Error(n, is)
	}
	if i, e := c.Store().Info(0); i != (api.Info{Block: g.hash(), Burnt: p.Subsidy}) || e != api.OK {
		t.Error(i, e)
	}
	first, e := chain.First(p)
	want := []byte{0xFF, 0xFF, 0x7F, 0x20, 4, 0, 0, 0, 4, 3, 2, 1, 0, 0, 0, 0, 5, 4, 3, 2, 1, 0, 0, 0, 7, 0, 0, 0, 0x2C, 1, 0, 0, 9, 0, 0, 0, 10, 0, 0, 0, 0x0E, 0x0D, 0x0C, 0x0B}
	if e != api.OK || !record.Same(first, []api.Record{{Kind: api.KindParams, Payload: want}, {Kind: api.KindBlock, Payload: g.bytes()}}) {
		t.Error(first, e)
	}
	for i, change := range []func(p *api.Params){func(p *api.Params) { p.Every = 1 }, func(p *api.Params) { p.Limit = 0 }, func(p *api.Params) { p.Extra = 51 }} {
		p := params()
		change(&p)
		c, e := chain.New(p)
		first, f := chain.First(p)
		if c != nil || first != nil || e != api.ErrPow || f != api.ErrPow {
			t.Error(i, e, f)
		}
	}
}

// P28.2
func TestExample(t *testing.T) {
	c, g := made(t, params()), genesis(params())
	fails(t, c, nil, api.ErrRaw)
	fails(t, c, []byte("no block"), api.ErrRaw)
	fails(t, c, append(g.next(1, 50).bytes(), 0), api.ErrRaw)
	fails(t, c, g.bytes(), api.ErrKnown)
	one := g.next(1, 50)
	records := becomes(t, c, one, api.StatusActive, api.OK, api.KindBlock, api.KindApply)
	payload(t, records[0], api.KindBlock, one.bytes())
	s := store.New()
	for _, b := range []spot{g, one} {
		a, e := rules.Connect(params(), s, b.block, b.hash())
		if e != api.OK || s.Apply(a) != api.OK {
			t.Fatal(e)
		}
		if b.height() == 1 {
			want, _ := coin.Encode(a)
			payload(t, records[1], api.KindApply, want)
		}
	}
	fails(t, c, one.bytes(), api.ErrKnown)
	two := one.next(2, 50)
	three := two.next(3, 50)
	records = becomes(t, c, three, api.StatusOrphan, api.OK, api.KindBlock)
	payload(t, records[0], api.KindBlock, three.bytes())
	fails(t, c, three.bytes(), api.ErrKnown)
	if !slices.Equal(c.Orphans(), []api.Hash{three.hash()}) || c.Tip() != one.hash() {
		t.Error(c.Orphans())
	}
	for _, x := range []api.Hash{three.hash(), two.hash(), {}} {
		if _, is := c.Block(x); is {
			t.Error("not in the tree")
		}
	}
	records = becomes(t, c, two, api.StatusActive, api.OK, api.KindBlock, api.KindJoined, api.KindApply, api.KindApply)
	payload(t, records[1], api.KindJoined, hashBytes(three))
	if c.Tip() != three.hash() || len(c.Orphans()) != 0 || c.Store().Tip() != 3 || c.Status(three.hash()) != api.StatusActive {
		t.Error(c.Tip())
	}
}

// P28.2
func TestErrorsOfChildren(t *testing.T) {
	c, g := made(t, params()), genesis(params())
	one := g.next(1, 50)
	active(t, c, one)
	wrong := func(change func(b *api.Block)) []byte {
		b := block.Copy(one.next(2, 50).block)
		change(&b)
		return one.mined(b).bytes()
	}
	unmined := one.next(2, 50).block
	for one.mined(unmined).block.Header == unmined.Header {
		unmined.Header.Nonce++
	}
	raw, _ := block.Encode(unmined)
	fails(t, c, raw, api.ErrWork)
	fails(t, c, wrong(func(b *api.Block) { b.Header.Bits-- }), api.ErrBits)
	fails(t, c, wrong(func(b *api.Block) { b.Header.Bits, b.Header.Time = 0, 0 }), api.ErrBits)
	fails(t, c, wrong(func(b *api.Block) { b.Header.Time, b.Header.Root = 1100, api.Hash{} }), api.ErrTime)
	fails(t, c, wrong(func(b *api.Block) { b.Header.Root[0]++ }), api.ErrRoot)
	fails(t, c, wrong(func(b *api.Block) { b.Txs = nil }), api.ErrCoinbase)
	fails(t, c, one.next(2, -1).bytes(), api.ErrValue)
	fails(t, c, one.next(2, 50, spend(api.Outpoint{}, 1), spend(api.Outpoint{}, 2)).bytes(), api.ErrAgain)
	fails(t, c, one.next(2, 50, spend(api.Outpoint{N: 0xFFFFFFFF}, 1)).bytes(), api.ErrCoinbase)
	if c.Tip() != one.hash() {
		t.Error("changed")
	}
}

// P28.2
func TestErrorsOfOrphans(t *testing.T) {
	c, g := made(t, params()), genesis(params())
	parent := g.next(1, 50)
	wrong := func(change func(b *api.Block)) []byte {
		b := block.Copy(parent.next(2, 50).block)
		change(&b)
		return parent.mined(b).bytes()
	}
	unmined := func(root api.Hash) []byte {
		b := parent.next(2, 50).block
		b.Header.Root = root
		for parent.mined(b).block.Header == b.Header {
			b.Header.Nonce++
		}
		raw, _ := block.Encode(b)
		return raw
	}
	fails(t, c, wrong(func(b *api.Block) { b.Header.Bits, b.Header.Root = 0, api.Hash{} }), api.ErrRoot)
	fails(t, c, unmined(api.Hash{}), api.ErrRoot)
	fails(t, c, unmined(parent.next(2, 50).block.Header.Root), api.ErrWork)
	fails(t, c, wrong(func(b *api.Block) { b.Header.Bits = 0x04923456 }), api.ErrBits)
	fails(t, c, wrong(func(b *api.Block) { b.Header.Bits = 0x2100FFFF }), api.ErrBits) // above the limit
	for i := range 4 {
		becomes(t, c, parent.next(10+i, 50), api.StatusOrphan, api.OK, api.KindBlock)
	}
	fails(t, c, parent.next(20, 50).bytes(), api.ErrOrphans)
	fails(t, c, wrong(func(b *api.Block) { b.Header.Bits = 0x04923456 }), api.ErrBits)
	fails(t, c, parent.next(13, 50).bytes(), api.ErrKnown)
	active(t, c, g.next(3, 50)) // there is always room for what is no orphan
}

// P28.2
func TestReorganization(t *testing.T) {
	c, g := made(t, params()), genesis(params())
	a1 := g.next(1, 50)
	a2 := a1.next(2, 50)
	b1 := g.next(3, 40)
	b2 := b1.next(4, 30)
	b3 := b2.next(5, 20, spend(b1.base(), 15, 20))
	active(t, c, a1, a2)
	side(t, c, b1, b2) // of the same work, the one that was seen first stays
	if c.Tip() != a2.hash() {
		t.Fatal("tip")
	}
	records := becomes(t, c, b3, api.StatusActive, api.OK, api.KindBlock, api.KindCut, api.KindApply, api.KindApply, api.KindApply)
	cut, _ := coin.Cut(0)
	payload(t, records[1], api.KindCut, cut)
	for i, b := range []spot{b1, b2, b3} {
		changes, e := coin.Decode(records[2+i].Payload)
		if e != api.OK || changes.Block != b.hash() || changes.Height != i+1 {
			t.Error(i, changes, e)
		}
		if x, is := c.At(i + 1); x != b.hash() || !is {
			t.Error(i, x, is)
		}
	}
	if c.Status(a1.hash()) != api.StatusSide || c.Status(a2.hash()) != api.StatusSide || c.Status(b1.hash()) != api.StatusActive {
		t.Error("status")
	}
	if i, _ := c.Store().Info(3); i.Total != 40+30+20-5 || i.Left != 10+20+30+5 || i.Coins != 4 {
		t.Error(i)
	}
	if _, is := c.At(4); is {
		t.Error("above the tip")
	}
	side(t, c, a2.next(6, 50))
	becomes(t, c, a2.next(6, 50).next(7, 50), api.StatusActive, api.OK, api.KindBlock, api.KindCut, api.KindApply, api.KindApply, api.KindApply, api.KindApply)
}

// P28.2
func TestMarked(t *testing.T) {
	c, g := made(t, params()), genesis(params())
	a1 := g.next(1, 50)
	active(t, c, a1)
	greedy := a1.next(2, 51)
	records := becomes(t, c, greedy, api.StatusMarked, api.ErrClaim, api.KindBlock, api.KindMarked)
	payload(t, records[1], api.KindMarked, hashBytes(greedy))
	fails(t, c, greedy.bytes(), api.ErrKnown)
	fails(t, c, greedy.next(3, 50).bytes(), api.ErrBranch)
	fails(t, c, greedy.next(3, -1).bytes(), api.ErrValue) // ahead of ErrBranch
	becomes(t, c, a1.next(4, 50, spend(api.Outpoint{}, 1)), api.StatusMarked, api.ErrMissing, api.KindBlock, api.KindMarked)
	becomes(t, c, a1.next(5, 50, spend(a1.base(), 1)), api.StatusMarked, api.ErrImmature, api.KindBlock, api.KindMarked)
	if c.Tip() != a1.hash() {
		t.Error("tip")
	}
	// A block aside is judged when its branch is best; what was active comes back.
	b1 := g.next(6, 50)
	b2 := b1.next(7, 99)
	side(t, c, b1)
	records = becomes(t, c, b2, api.StatusMarked, api.ErrClaim, api.KindBlock, api.KindCut, api.KindApply, api.KindMarked, api.KindCut, api.KindApply)
	if c.Tip() != a1.hash() || c.Status(b1.hash()) != api.StatusSide || c.Status(b2.hash()) != api.StatusMarked {
		t.Error("tip")
	}
	changes, _ := coin.Decode(records[2].Payload)
	again, _ := coin.Decode(records[5].Payload)
	if changes.Block != b1.hash() || again.Block != a1.hash() {
		t.Error("applied")
	}
}

// P28.2: the submitted block is fine, but one on the path to it is not.
func TestMarkedBefore(t *testing.T) {
	c, g := made(t, params()), genesis(params())
	a1 := g.next(1, 50)
	a2 := a1.next(2, 50)
	b1 := g.next(3, 60)
	b2 := b1.next(4, 50)
	b3 := b2.next(5, 50)
	active(t, c, a1, a2)
	side(t, c, b1, b2)
	becomes(t, c, b3, api.StatusMarked, api.ErrClaim, api.KindBlock, api.KindCut, api.KindMarked, api.KindApply, api.KindApply)
	for _, b := range []spot{b1, b2, b3} {
		if c.Status(b.hash()) != api.StatusMarked {
			t.Error(b.height())
		}
	}
	n, _ := c.Node(b1.hash())
	m, _ := c.Node(b2.hash())
	if !n.Marked || m.Marked || c.Tip() != a2.hash() {
		t.Error(n, m)
	}
}

// P28.2: a submission that makes two branches bad, and ends on a third one.
func TestSeveralMarked(t *testing.T) {
	c, g := made(t, params()), genesis(params())
	a1 := g.next(1, 50)
	b1, c1 := g.next(2, 70), g.next(3, 50)
	active(t, c, a1)
	side(t, c, b1, c1)
	b2, c2 := b1.next(4, 50), c1.next(5, 80)
	c3, b3 := c2.next(6, 50), b2.next(7, 50)
	becomes(t, c, b3, api.StatusOrphan, api.OK, api.KindBlock)
	becomes(t, c, c3, api.StatusOrphan, api.OK, api.KindBlock)
	// c2 brings c3 along: that branch is best, and c2 is bad.
	becomes(t, c, c2, api.StatusMarked, api.ErrClaim, api.KindBlock, api.KindJoined, api.KindCut, api.KindApply, api.KindMarked, api.KindCut, api.KindApply)
	if c.Tip() != a1.hash() || c.Status(c1.hash()) != api.StatusSide || c.Status(c3.hash()) != api.StatusMarked {
		t.Error(c.Status(c1.hash()), c.Status(c3.hash()))
	}
	becomes(t, c, b2, api.StatusMarked, api.ErrClaim, api.KindBlock, api.KindJoined, api.KindCut, api.KindMarked, api.KindApply)
	if c.Tip() != a1.hash() {
		t.Error("tip")
	}
}

// P28.2: a block behind the submitted one is bad, and the branch is not best without it.
func TestMarkedBehind(t *testing.T) {
	c, g := made(t, params()), genesis(params())
	a1 := g.next(1, 50)
	a2 := a1.next(2, 50)
	a3 := a2.next(3, 50)
	b1 := g.next(4, 50)
	b2 := b1.next(5, 50)
	b3 := b2.next(6, 99)
	b4 := b3.next(7, 50)
	active(t, c, a1, a2, a3)
	side(t, c, b1)
	becomes(t, c, b3, api.StatusOrphan, api.OK, api.KindBlock)
	becomes(t, c, b4, api.StatusOrphan, api.OK, api.KindBlock)
	becomes(t, c, b2, api.StatusSide, api.OK, api.KindBlock, api.KindJoined, api.KindJoined, api.KindCut, api.KindApply, api.KindApply, api.KindMarked, api.KindCut, api.KindApply, api.KindApply, api.KindApply)
	if c.Tip() != a3.hash() || c.Status(b3.hash()) != api.StatusMarked || c.Status(b2.hash()) != api.StatusSide {
		t.Error("status")
	}
}

// P28.2
func TestOrphansConnected(t *testing.T) {
	p := params()
	p.Extra = 10
	c, g := made(t, p), genesis(p)
	a1 := g.next(1, 50)
	a2, x2 := a1.next(2, 50), a1.next(3, 50)
	a3, a4 := a2.next(4, 50), a2.next(4, 50).next(5, 50)
	early := block.Copy(a1.next(6, 50).block)
	early.Header.Time = 1000 // not above the median
	e2 := a1.mined(early)
	e3, e4 := e2.next(7, 50), e2.next(7, 50).next(8, 50)
	for _, s := range []spot{a4, e4, e2, x2, a2, e3, a3} {
		becomes(t, c, s, api.StatusOrphan, api.OK, api.KindBlock)
	}
	records := becomes(t, c, a1, api.StatusActive, api.OK, api.KindBlock, api.KindDropped, api.KindDropped, api.KindDropped, api.KindJoined, api.KindJoined, api.KindJoined, api.KindJoined,
		api.KindApply, api.KindApply, api.KindApply, api.KindApply)
	for i, s := range []spot{e2, e4, e3, x2, a2, a3, a4} {
		if !bytes.Equal(records[1+i].Payload, hashBytes(s)) {
			t.Error(i)
		}
	}
	if c.Tip() != a4.hash() || c.Status(x2.hash()) != api.StatusSide || c.Status(e3.hash()) != 0 || len(c.Orphans()) != 0 {
		t.Error("status")
	}
	// Behind a bad block, orphans are dropped.
	bad := a4.next(9, 99)
	b1, b2 := bad.next(10, 50), bad.next(10, 50).next(11, 50)
	becomes(t, c, b2, api.StatusOrphan, api.OK, api.KindBlock)
	becomes(t, c, bad, api.StatusMarked, api.ErrClaim, api.KindBlock, api.KindMarked)
	fails(t, c, b1.bytes(), api.ErrBranch)
	if !slices.Equal(c.Orphans(), []api.Hash{b2.hash()}) {
		t.Error(c.Orphans())
	}
	if e := c.Replay([]api.Record{{Kind: api.KindBlock, Payload: b1.bytes()}}); e != api.OK {
		t.Error(e)
	}
	// Only the next block that is no orphan drops what now has a bad parent.
	other := genesis(p).next(99, 50).next(98, 50)
	becomes(t, c, other, api.StatusOrphan, api.OK, api.KindBlock)
	becomes(t, c, a4.next(12, 50), api.StatusActive, api.OK, api.KindBlock, api.KindDropped, api.KindApply)
	if !slices.Equal(c.Orphans(), []api.Hash{other.hash()}) {
		t.Error(c.Orphans())
	}
}

// P28.2: a chain in which records left more to do than Submit would.
func TestNothingElseForOrphans(t *testing.T) {
	c, g := made(t, params()), genesis(params())
	a1 := g.next(1, 50)
	a2 := a1.next(2, 50)
	becomes(t, c, a2, api.StatusOrphan, api.OK, api.KindBlock)
	if e := c.Replay([]api.Record{{Kind: api.KindBlock, Payload: a1.bytes()}}); e != api.OK || c.Tip() != g.hash() {
		t.Error(e)
	}
	becomes(t, c, a2.next(3, 50), api.StatusOrphan, api.OK, api.KindBlock)
	becomes(t, c, g.next(4, 50), api.StatusSide, api.OK, api.KindBlock, api.KindJoined, api.KindJoined, api.KindApply, api.KindApply, api.KindApply)
}

// P28.2
func TestDepth(t *testing.T) {
	c, g := made(t, params()), genesis(params())
	a := []spot{g}
	for i := range 6 {
		a = append(a, a[i].next(i, 50))
		active(t, c, a[i+1])
	}
	// From height 3, three blocks may be taken back; from height 2, four may not.
	deep := []spot{a[2]}
	for i := range 5 {
		deep = append(deep, deep[i].next(100+i, 50))
		if i < 4 {
			side(t, c, deep[i+1])
		}
	}
	fails(t, c, deep[5].bytes(), api.ErrDepth)
	just := a[3]
	for i := range 3 {
		just = just.next(200+i, 50)
		side(t, c, just)
	}
	becomes(t, c, just.next(203, 50), api.StatusActive, api.OK, api.KindBlock, api.KindCut, api.KindApply, api.KindApply, api.KindApply, api.KindApply)
	fails(t, c, deep[5].next(9, 50).bytes()[:90], api.ErrRaw)
	becomes(t, c, deep[5], api.StatusSide, api.OK, api.KindBlock) // no longer the best one
}

// P28.2: the depth is that of the tip ahead of all, though the active chain is shorter for a while.
func TestDepthFromTheBeginning(t *testing.T) {
	c, g := made(t, params()), genesis(params())
	a := []spot{g}
	for i := range 4 {
		a = append(a, a[i].next(i, 50))
		active(t, c, a[i+1])
	}
	b := a[0]
	for i := range 4 {
		b = b.next(50+i, 50)
		side(t, c, b)
	}
	// The branch from height 1 is best, and bad at its end; then the tip itself is best again.
	d := a[1]
	for i := range 3 {
		d = d.next(70+i, 50)
		side(t, c, d)
	}
	becomes(t, c, d.next(80, 99), api.StatusMarked, api.ErrClaim, api.KindBlock, api.KindCut, api.KindApply, api.KindApply, api.KindApply, api.KindMarked, api.KindCut, api.KindApply, api.KindApply, api.KindApply)
	fails(t, c, b.next(90, 50).bytes(), api.ErrDepth)
}

// P28.3
func TestReplayConditions(t *testing.T) {
	c, g := made(t, params()), genesis(params())
	a1 := g.next(1, 50)
	a2 := a1.next(2, 50)
	far := a2.next(3, 50).next(4, 50)
	active(t, c, a1)
	becomes(t, c, far, api.StatusOrphan, api.OK, api.KindBlock)
	_, records, _ := c.Submit(a2.bytes())
	apply := records[1]
	cut := func(height int) api.Record {
		b, e := coin.Cut(height)
		if e != api.OK {
			t.Fatal(e)
		}
		return api.Record{Kind: api.KindCut, Payload: b}
	}
	of := func(kind int, b []byte) api.Record { return api.Record{Kind: kind, Payload: b} }
	params, _ := chain.First(params())
	before := state(c)
	for i, group := range [][]api.Record{
		{params[0]}, {params[1]}, {of(7, nil)}, {of(-1, nil)}, {of(255, nil)}, {of(api.KindBlock, nil)}, {of(api.KindBlock, a1.bytes())}, {of(api.KindBlock, far.bytes())}, {of(api.KindBlock, append(a2.bytes(), 0))},
		{of(api.KindJoined, hashBytes(far))}, {of(api.KindJoined, hashBytes(a1))}, {of(api.KindJoined, nil)}, {of(api.KindJoined, append(hashBytes(far), 0))}, {of(api.KindDropped, hashBytes(a1))}, {of(api.KindDropped, hashBytes(far)[:31])}, {of(api.KindDropped, nil)},
		{of(api.KindDropped, append(hashBytes(far), 0))}, {of(api.KindMarked, hashBytes(g))}, {of(api.KindMarked, hashBytes(far))}, {of(api.KindMarked, hashBytes(a1)[:31])}, {of(api.KindMarked, append(hashBytes(a1), 0))}, {cut(2)}, {of(api.KindCut, []byte{0, 0, 0})}, {of(api.KindCut, []byte{0, 0, 0, 0, 0})},
		{apply}, {of(api.KindBlock, a2.bytes()), apply, apply}, {of(api.KindBlock, a2.bytes()), cut(0), apply}, {of(api.KindApply, nil)}, {of(api.KindBlock, a2.bytes()), of(api.KindBlock, a2.bytes())}, {cut(0), cut(1)},
	} {
		if e := c.Replay(group); e != api.ErrChain || !bytes.Equal(state(c), before) {
			t.Error(i, e)
		}
	}
	if c.Status(a2.hash()) != 0 {
		t.Error("a group that is not applicable changed something")
	}
	// The height fits, but not the parent.
	b1 := g.next(30, 50)
	b2 := b1.next(31, 50)
	other := c.Copy()
	side(t, other, b1)
	strange, _ := coin.Encode(api.Apply{Height: 2, Block: b2.hash()})
	if e := other.Replay([]api.Record{of(api.KindBlock, b2.bytes()), of(api.KindApply, strange)}); e != api.ErrChain {
		t.Error(e)
	}
	full := c.Copy()
	for i := range 3 {
		becomes(t, full, far.next(10+i, 50), api.StatusOrphan, api.OK, api.KindBlock)
	}
	if e := full.Replay([]api.Record{of(api.KindBlock, far.next(20, 50).bytes())}); e != api.ErrChain {
		t.Error(e)
	}
	for i, group := range [][]api.Record{nil, {of(api.KindBlock, a2.bytes())}, {cut(1)}, {cut(0)}, {of(api.KindDropped, hashBytes(far))}, {of(api.KindMarked, hashBytes(a1))}, {of(api.KindBlock, a2.bytes()), apply}, records, {of(api.KindBlock, a2.bytes()), of(api.KindBlock, a2.next(3, 50).bytes()), of(api.KindJoined, hashBytes(far))}} {
		if e := c.Copy().Replay(group); e != api.OK {
			t.Error(i, e)
		}
	}
}

// P28.2, P28.3
func TestReplayedOtherwise(t *testing.T) {
	c, g := made(t, params()), genesis(params())
	a1, b1 := g.next(1, 50), g.next(2, 50)
	active(t, c, a1)
	// The tip is marked: at the next submission the best node takes its place.
	if e := c.Replay([]api.Record{{Kind: api.KindMarked, Payload: hashBytes(a1)}}); e != api.OK || c.Status(a1.hash()) != api.StatusActive || c.Tip() != a1.hash() {
		t.Error(e)
	}
	becomes(t, c, b1, api.StatusActive, api.OK, api.KindBlock, api.KindCut, api.KindApply)
	if c.Status(a1.hash()) != api.StatusMarked {
		t.Error(c.Status(a1.hash()))
	}
	// Changes that no block made: what the next block makes does not fit.
	d, b2 := made(t, params()), b1.next(3, 50)
	v := api.Version{Point: b2.base(), Made: 1, Value: 2100000000000000, Script: []byte{1}}
	strange, _ := coin.Encode(api.Apply{Height: 1, Block: b1.hash(), Made: []api.Version{{Point: api.Outpoint{N: 5}, Made: 1, Value: v.Value}}})
	if e := d.Replay([]api.Record{{Kind: api.KindBlock, Payload: b1.bytes()}, {Kind: api.KindApply, Payload: strange}}); e != api.OK || d.Tip() != b1.hash() {
		t.Error(e)
	}
	fails(t, d, b2.bytes(), api.ErrChain)
	wrongHeight, _ := coin.Encode(api.Apply{Height: 2, Block: b1.hash()})
	if e := made(t, params()).Replay([]api.Record{{Kind: api.KindBlock, Payload: b1.bytes()}, {Kind: api.KindApply, Payload: wrongHeight}}); e != api.ErrChain {
		t.Error(e)
	}
}

// P28.2, P28.6: retargets, and branches of different work.
func TestRetargets(t *testing.T) {
	p := params()
	p.Every, p.Span, p.Depth = 3, 300, 20
	c, g := made(t, p), genesis(p)
	a := g
	for i := range 10 {
		a = a.next(i, 10)
		active(t, c, a)
	}
	if a.block.Header.Bits == p.Limit {
		t.Error("no retarget")
	}
	old := g
	for i := range 9 {
		old = old.next(100+i, 10)
		side(t, c, old)
	}
	wrong := a.next(11, 10).block
	wrong.Header.Bits = p.Limit
	fails(t, c, a.mined(wrong).bytes(), api.ErrBits)
}

// P28.4, P28.6
func TestRandom(t *testing.T) {
	r := rand.New(rand.NewSource(28))
	for range 12 {
		p := params()
		p.Depth, p.Extra, p.Every = 1+r.Intn(6), r.Intn(6), 2+r.Intn(6)
		p.Span = int64(100*(p.Every-1)) + r.Int63n(11) - 5
		c, again := made(t, p), made(t, p)
		spots := []spot{genesis(p)}
		statuses := map[int]int{}
		for n := range 80 {
			parent := spots[max(0, len(spots)-1-r.Intn(6))]
			var txs []api.Tx
			if from := spots[max(0, len(spots)-1-r.Intn(9))]; r.Intn(4) == 0 {
				txs = append(txs, spend(from.base(), r.Int63n(1+from.block.Txs[0].Out[0].Value)))
			}
			claim := r.Int63n(rules.Subsidy(p, parent.height()+1) + 1)
			if r.Intn(15) == 0 {
				claim += 50
			}
			s := parent.next(n, claim, txs...)
			spots = append(spots, s)
			if r.Intn(5) == 0 {
				continue // those behind it are orphans, till it is tried again
			}
			for _, b := range []spot{s, spots[r.Intn(len(spots))]} {
				reply, records, e := c.Submit(b.bytes())
				statuses[reply.Status]++
				if e != api.OK {
					continue
				}
				if c.Replay(records) != api.OK || again.Replay(records) != api.OK || c.Status(b.hash()) != reply.Status || reply.Hash != b.hash() {
					t.Fatal("replay")
				}
				if (reply.Status == api.StatusMarked) != (reply.Err != api.OK) {
					t.Fatal(reply)
				}
				holds(t, p, c, spots, reply.Status)
			}
		}
		if !bytes.Equal(state(c), state(again)) {
			t.Error("another state")
		}
		for status := range 5 {
			if status > 0 && statuses[status] == 0 && p.Extra > 0 {
				t.Error("no status", status, statuses)
			}
		}
	}
}

// holds tells of a chain whose tip is not the best block, or whose coins are not those of its active blocks.
func holds(t *testing.T, p api.Params, c *chain.Chain, spots []spot, status int) {
	t.Helper()
	tip, _ := c.Node(c.Tip())
	for _, s := range spots {
		n, is := c.Node(s.hash())
		if !is || c.Status(s.hash()) == api.StatusMarked {
			continue
		}
		for i := 3; i >= 0; i-- {
			if n.Total[i] != tip.Total[i] {
				if n.Total[i] > tip.Total[i] && status != api.StatusOrphan {
					t.Fatal("not the best")
				}
				break
			}
		}
	}
	fresh := store.New()
	for height := range tip.Height + 1 {
		x, _ := c.At(height)
		b, _ := c.Block(x)
		a, e := rules.Connect(p, fresh, b, x)
		if e != api.OK || fresh.Apply(a) != api.OK {
			t.Fatal(height, e)
		}
	}
	if !coin.SameVersions(fresh.Every(), c.Store().Every()) || fresh.Tip() != c.Store().Tip() {
		t.Fatal("other coins")
	}
	a, _ := fresh.Info(fresh.Tip())
	b, _ := c.Store().Info(fresh.Tip())
	if a != b {
		t.Fatal(a, b)
	}
}

// P28.1 to P28.4
func TestNone(t *testing.T) {
	for _, c := range []*chain.Chain{nil, new(chain.Chain)} {
		reply, records, e := c.Submit(nil)
		b, is := c.Block(api.Hash{})
		x, at := c.At(0)
		n, node := c.Node(api.Hash{})
		if e != api.ErrNil || c.Replay([]api.Record{{Kind: 9}}) != api.ErrNil || reply != (api.Reply{}) || records != nil || c.Store() != nil || is || !block.Same(b, api.Block{}) || at || x != (api.Hash{}) || c.Tip() != (api.Hash{}) || node || n != (api.Node{}) || c.Status(api.Hash{}) != 0 || c.Orphans() != nil || c.Copy() != nil {
			t.Error("none", e)
		}
	}
	c := made(t, params())
	if _, is := c.At(-1); is {
		t.Error("-1")
	}
	if _, is := c.Block(api.Hash{}); is || c.Status(api.Hash{}) != 0 {
		t.Error("no such block")
	}
}

// P28.5
func TestApart(t *testing.T) {
	c, g := made(t, params()), genesis(params())
	one := g.next(1, 50)
	raw := one.bytes()
	_, records, _ := c.Submit(raw)
	for i := range raw {
		raw[i] = 0
	}
	d := c.Copy()
	if e := c.Replay(records); e != api.OK {
		t.Fatal(e)
	}
	for _, r := range records {
		for i := range r.Payload {
			r.Payload[i] = 0
		}
	}
	got, _ := c.Block(one.hash())
	got.Txs[0].Out[0].Script[0] = 0
	again, _ := c.Block(one.hash())
	s := c.Store()
	s.Cut(-1)
	if !block.Same(again, one.block) || c.Store().Tip() != 1 || d.Tip() != g.hash() || d.Store().Tip() != 0 {
		t.Error("shared")
	}
	active(t, d, g.next(2, 50))
	if c.Tip() != one.hash() || c.Status(d.Tip()) != 0 {
		t.Error("shared")
	}
	v, there, _ := c.Store().Coin(one.base(), 1)
	id, _ := tx.Id(one.block.Txs[0])
	if !there || v.Point.Tx != id || v.Value != 50 {
		t.Error(v)
	}
}
