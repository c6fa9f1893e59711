package chain

import (
	"iter"
	"slices"

	"purser/api"
	"purser/block"
	"purser/coin"
	"purser/pow"
	"purser/rules"
	"purser/whole"
)

// verdict is a block that was marked, and why.
type verdict struct {
	block api.Hash
	e     api.Errno
}

// submission is a copy of a chain, and what was done to it since a block was submitted.
type submission struct {
	*Chain
	began   api.Node // the tip ahead of all
	records []api.Record
	marked  []verdict
}

// Submit tells what becomes of a block, without changing the chain.
func (c *Chain) Submit(b []byte) (api.Reply, []api.Record, api.Errno) {
	if c.none() {
		return api.Reply{}, nil, api.ErrNil
	}
	submitted, e := c.accept(b)
	if e != api.OK {
		return api.Reply{}, nil, e
	}
	s := &submission{Chain: c.Copy()}
	s.began, _ = s.tree.Node(s.Tip())
	x := block.Hash(submitted.Header)
	if e := s.perform(b, x); e != api.OK {
		return api.Reply{}, nil, e
	}
	return s.reply(x), s.records, api.OK
}

// accept is the block of bytes, if it may go to the tree or to the pool.
func (c *Chain) accept(b []byte) (api.Block, api.Errno) {
	submitted, e := block.Decode(b)
	if e != api.OK {
		return api.Block{}, api.ErrRaw
	}
	x := block.Hash(submitted.Header)
	switch {
	case c.inTree(x) || c.pool.Has(x):
		e = api.ErrKnown
	case c.inTree(submitted.Header.Prev):
		e = c.acceptChild(submitted)
	default:
		e = c.acceptOrphan(submitted)
	}
	return submitted, e
}

// acceptOrphan says whether a block may go to the pool.
func (c *Chain) acceptOrphan(b api.Block) api.Errno {
	if e := whole.Judge(b); e != api.OK {
		return e
	}
	if e := pow.Own(c.params, b.Header); e != api.OK {
		return e
	}
	if c.pool.Room() == 0 {
		return api.ErrOrphans
	}
	return api.OK
}

// acceptChild says whether a block may go to the tree.
func (c *Chain) acceptChild(b api.Block) api.Errno {
	if e := c.judgeHeader(b.Header); e != api.OK {
		return e
	}
	if e := whole.Judge(b); e != api.OK {
		return e
	}
	if c.tree.Bad(b.Header.Prev) {
		return api.ErrBranch
	}
	return api.OK
}

// judgeHeader says whether a header may stand behind its parent, which is in the tree.
func (c *Chain) judgeHeader(h api.Header) api.Errno {
	parent, _ := c.tree.Node(h.Prev)
	return pow.Judge(c.params, h, parent.Height+1, func(height int) api.Header {
		n, _ := c.tree.At(h.Prev, height)
		return n.Header
	})
}

// perform does all that follows from a block that is accepted; of an orphan nothing does.
func (s *submission) perform(b []byte, x api.Hash) api.Errno {
	s.record(api.KindBlock, slices.Clone(b))
	if s.pool.Has(x) {
		return api.OK
	}
	s.connect()
	return s.update()
}

// record does what a record tells, and keeps the record. Its condition is satisfied, but that changes may not fit: it says whether it was.
func (s *submission) record(kind int, payload []byte) bool {
	r := api.Record{Kind: kind, Payload: payload}
	s.records = append(s.records, r)
	return s.do(r)
}

// recordHash records a hash.
func (s *submission) recordHash(kind int, x api.Hash) { s.record(kind, x[:]) }

// connect connects orphans whose parents are in the tree.
func (s *submission) connect() {
	for x, found := s.pool.Next(s.inTree); found; x, found = s.pool.Next(s.inTree) {
		h := s.orphan(x).Header
		if s.judgeHeader(h) == api.OK && !s.tree.Bad(h.Prev) {
			s.recordHash(api.KindJoined, x)
		} else {
			s.dropAll(x)
		}
	}
}

// dropAll drops an orphan, and then those that descend from it.
func (s *submission) dropAll(x api.Hash) {
	s.recordHash(api.KindDropped, x)
	for _, y := range s.pool.Copy().Drop(x) {
		s.recordHash(api.KindDropped, y)
	}
}

// update lets the active chain be the path to the best node.
func (s *submission) update() api.Errno {
	for best := s.tree.Best(); best != s.Tip(); best = s.tree.Best() {
		if s.began.Height-s.forkHeight(s.began.Hash, best) > s.params.Depth {
			return api.ErrDepth
		}
		if fork := s.forkHeight(s.Tip(), best); fork != s.height() {
			cut, _ := coin.Cut(fork)
			s.record(api.KindCut, cut)
		}
		if !s.advance(best) {
			return api.ErrChain
		}
	}
	return api.OK
}

// forkHeight is the height of the last node that the paths to two nodes have in common.
func (s *submission) forkHeight(x, y api.Hash) int {
	fork, _ := s.tree.Fork(x, y)
	n, _ := s.tree.Node(fork)
	return n.Height
}

// advance applies the blocks behind the tip on the path to a node, up to the first one that fails, which is marked. It says whether the changes fit the store.
func (s *submission) advance(to api.Hash) bool {
	fit := true
applying:
	for x, b := range s.ahead(to) {
		changes, e := rules.Connect(s.params, s.store, b, x)
		if e != api.OK {
			s.marked = append(s.marked, verdict{x, e})
			s.recordHash(api.KindMarked, x)
			break applying
		}
		encoded, _ := coin.Encode(changes) // there are no bytes of what is not valid, and these do not fit either
		if fit = s.record(api.KindApply, encoded); !fit {
			break applying
		}
	}
	return fit
}

// ahead produces the blocks behind the tip on the path to a node, each with its hash.
func (s *submission) ahead(to api.Hash) iter.Seq2[api.Hash, api.Block] {
	return func(yield func(api.Hash, api.Block) bool) {
		var path []api.Hash
		for n, _ := s.tree.Node(to); n.Height > s.height(); n, _ = s.tree.Node(n.Header.Prev) {
			path = append(path, n.Hash)
		}
		for _, x := range slices.Backward(path) {
			if !yield(x, *s.blocks[x]) {
				return
			}
		}
	}
}

// reply is what became of the submitted block.
func (s *submission) reply(x api.Hash) api.Reply {
	r := api.Reply{Hash: x, Status: s.Status(x)}
	if r.Status == api.StatusActive || r.Status == api.StatusOrphan {
		return r
	}
	for _, v := range s.marked {
		if fork, _ := s.tree.Fork(v.block, x); fork == v.block {
			return api.Reply{Hash: x, Status: api.StatusMarked, Err: v.e}
		}
	}
	return api.Reply{Hash: x, Status: api.StatusSide}
}
