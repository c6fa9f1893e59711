package chain

import (
	"purser/api"
	"purser/block"
	"purser/coin"
)

// effect does what a record of a kind tells, and says whether its condition was satisfied; if not, nothing is done.
type effect func(payload []byte) bool

// effects are those of the kinds of records.
func (c *Chain) effects() map[int]effect {
	return map[int]effect{
		api.KindBlock:   c.addBlock,
		api.KindMarked:  c.markNode,
		api.KindCut:     c.cutActive,
		api.KindApply:   c.applyChanges,
		api.KindDropped: c.dropOrphan,
		api.KindJoined:  c.joinOrphan,
	}
}

// do does what a record tells, and says whether its condition was satisfied.
func (c *Chain) do(r api.Record) bool {
	done := c.effects()[r.Kind]
	return done != nil && done(r.Payload)
}

// Replay does what a group of records tells, all of it or nothing.
func (c *Chain) Replay(group []api.Record) api.Errno {
	if c.none() {
		return api.ErrNil
	}
	after := c.Copy()
	for _, r := range group {
		if !after.do(r) {
			return api.ErrChain
		}
	}
	*c = *after
	return api.OK
}

// addBlock adds a block to the tree, or to the pool if its parent is not in the tree.
func (c *Chain) addBlock(payload []byte) bool {
	b, e := block.Decode(payload)
	if e != api.OK || c.pool.Has(block.Hash(b.Header)) {
		return false
	}
	if e = c.addToTree(b); e == api.ErrTree {
		e = c.pool.Put(b)
	}
	return e == api.OK
}

// addToTree adds a block to the tree.
func (c *Chain) addToTree(b api.Block) api.Errno {
	x, e := c.tree.Add(b.Header)
	if e == api.OK {
		c.blocks[x] = &b
	}
	return e
}

// joinOrphan moves an orphan from the pool to the tree.
func (c *Chain) joinOrphan(payload []byte) bool {
	x, is := hashOf(payload)
	return is && c.addToTree(c.orphan(x)) == api.OK && c.dropOrphan(payload)
}

// dropOrphan removes an orphan from the pool.
func (c *Chain) dropOrphan(payload []byte) bool {
	x, is := hashOf(payload)
	if !is {
		return false
	}
	_, e := c.pool.Take(x)
	return e == api.OK
}

// orphan is the block of the pool with a hash, or one that has no parent.
func (c *Chain) orphan(x api.Hash) api.Block {
	b, _ := c.pool.Copy().Take(x)
	return b
}

// markNode marks a node of the tree.
func (c *Chain) markNode(payload []byte) bool {
	x, is := hashOf(payload)
	return is && c.tree.Mark(x) == api.OK
}

// hashOf is the hash that a payload is, and whether it is one.
func hashOf(payload []byte) (x api.Hash, is bool) {
	copied := copy(x[:], payload)
	return x, copied == len(x) && copied == len(payload)
}

// cutActive removes the blocks above a height from the active chain.
func (c *Chain) cutActive(payload []byte) bool {
	height, e := coin.CutOf(payload)
	if e != api.OK || height > c.height() {
		return false
	}
	c.active = c.active[:height+1]
	return c.store.Cut(height) == api.OK
}

// applyChanges lets a block be the next one of the active chain.
func (c *Chain) applyChanges(payload []byte) bool {
	changes, e := coin.Decode(payload)
	if e != api.OK {
		return false
	}
	n, is := c.tree.Node(changes.Block)
	if !is || n.Header.Prev != c.Tip() || c.store.Apply(changes) != api.OK {
		return false
	}
	c.active = append(c.active, n.Hash)
	return true
}
