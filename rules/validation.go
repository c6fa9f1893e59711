package rules

import (
	"slices"

	"purser/api"
	"purser/ops"
	"purser/spend"
	"purser/store"
	"purser/tx"
)

// coins is what a transaction asks of its view.
type coins interface {
	find(p api.Outpoint) (api.Version, bool)
	wasSpent(p api.Outpoint) bool
}

// overlay is what came to things with keys, and what went.
type overlay[K comparable, V any] struct {
	come map[K]V
	gone map[K]struct{}
}

// view is what there is at the tip of a store, and what the transactions judged so far made and spent.
type view struct {
	overlay[api.Outpoint, api.Version]
	store *store.Store
}

func newView(s *store.Store) view {
	return view{store: s, overlay: overlay[api.Outpoint, api.Version]{
		come: map[api.Outpoint]api.Version{},
		gone: map[api.Outpoint]struct{}{},
	}}
}

// wasSpent says whether an earlier transaction of the block spent an outpoint.
func (w view) wasSpent(p api.Outpoint) bool {
	_, is := w.gone[p]
	return is
}

// find is the version of an outpoint in the view, and whether there is one.
func (w view) find(p api.Outpoint) (api.Version, bool) {
	if w.wasSpent(p) {
		return api.Version{}, false
	}
	if v, is := w.come[p]; is {
		return v, true
	}
	v, there, _ := w.store.Coin(p, w.store.Tip()) // without a block nothing is there
	return v, there
}

// validation judges the transactions of a block in order, and keeps what they change.
type validation struct {
	view
	maturity int
	changes  api.Apply
	fees     int64
}

// judge judges a transaction; what it changes is seen by the next one.
func (c *validation) judge(id api.Hash, t api.Tx) api.Errno {
	if twice(c.view, id, t) {
		return api.ErrTwice
	}
	base := tx.Coinbase(t)
	if !base {
		fee, e := c.inputs(c.view, t)
		if e != api.OK {
			return e
		}
		c.fees += fee
		c.spend(id, t)
	}
	c.make(id, t, base)
	return api.OK
}

// twice says whether an output of a transaction is there, or was.
func twice(w coins, id api.Hash, t api.Tx) bool {
	for n := range t.Out {
		p := api.Outpoint{Tx: id, N: uint32(n)}
		if _, there := w.find(p); there || w.wasSpent(p) {
			return true
		}
	}
	return false
}

// inputs judges the inputs of a transaction, and is its fee.
func (c *validation) inputs(w coins, t api.Tx) (int64, api.Errno) {
	sum := int64(0)
	var locks [][]byte
	for _, in := range t.In {
		v, there := w.find(in.Prev)
		switch {
		case !there:
			return 0, api.ErrMissing
		case v.Base && c.changes.Height-v.Made < c.maturity:
			return 0, api.ErrImmature
		}
		sum += v.Value
		locks = append(locks, v.Script)
	}
	if _, e := spend.All(t, locks); e != api.OK {
		return 0, api.ErrScript
	}
	fee := sum - paid(t)
	if fee < 0 {
		return 0, api.ErrSpends
	}
	return fee, api.OK
}

// spend takes what a transaction spends out of the view.
func (c *validation) spend(id api.Hash, t api.Tx) {
	for _, in := range t.In {
		c.gone[in.Prev] = struct{}{}
		c.changes.Spends = append(c.changes.Spends, api.Spend{Point: in.Prev, Spender: id})
	}
}

// make puts what a transaction makes into the view; what is burnt is not made.
func (c *validation) make(id api.Hash, t api.Tx, base bool) {
	for n, out := range t.Out {
		if ops.Burnt(out.Script) {
			c.changes.Burnt += out.Value
			continue
		}
		v := api.Version{
			Point:  api.Outpoint{Tx: id, N: uint32(n)},
			Made:   c.changes.Height,
			Value:  out.Value,
			Script: slices.Clone(out.Script),
			Base:   base,
		}
		c.come[v.Point] = v
		c.changes.Made = append(c.changes.Made, v)
	}
}
