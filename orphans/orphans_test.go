package orphans_test

import (
	"math/rand"
	"slices"
	"testing"

	"purser/api"
	"purser/block"
	"purser/orphans"
)

func behind(prev api.Hash, n int) api.Block {
	return api.Block{Header: api.Header{Prev: prev, Nonce: uint32(n)}, Txs: []api.Tx{{In: []api.In{{Script: []byte{1, byte(n)}}}, Out: []api.Out{{Script: []byte{2}}}}}}
}

func hash(b api.Block) api.Hash { return block.Hash(b.Header) }

func made(t *testing.T, most int, l ...api.Block) *orphans.Pool {
	t.Helper()
	p, e := orphans.New(most)
	if e != api.OK {
		t.Fatal(e)
	}
	for _, b := range l {
		is(t, "put", p.Put(b), api.OK)
	}
	return p
}

func is(t *testing.T, what string, got, want api.Errno) {
	t.Helper()
	if got != want {
		t.Errorf("%s: error %d, not %d", what, got, want)
	}
}

// has tells of a pool with other blocks, or another capacity.
func has(t *testing.T, p *orphans.Pool, most int, l ...api.Block) {
	t.Helper()
	if !slices.EqualFunc(p.All(), l, block.Same) || p.Len() != len(l) || p.Room() != most-len(l) {
		t.Errorf("%d blocks, room for %d, not %d, %d", p.Len(), p.Room(), len(l), most-len(l))
	}
	for _, b := range l {
		if !p.Has(hash(b)) {
			t.Error("missing")
		}
	}
}

func known(l ...api.Hash) func(api.Hash) bool {
	return func(x api.Hash) bool { return slices.Contains(l, x) }
}

// P27.1, P27.2, P27.3
func TestExample(t *testing.T) {
	a := api.Hash{1}
	b := behind(a, 1)
	c, d := behind(hash(b), 2), behind(api.Hash{9}, 3)
	p := made(t, 2)
	has(t, p, 2)
	is(t, "c", p.Put(c), api.OK)
	is(t, "b", p.Put(b), api.OK)
	is(t, "d", p.Put(d), api.ErrOrphans)
	is(t, "known ahead of full", p.Put(c), api.ErrKnown)
	has(t, p, 2, c, b)
	if x, found := p.Next(known(a)); x != hash(b) || !found {
		t.Error(x, found)
	}
	if x, found := p.Next(known()); x != (api.Hash{}) || found {
		t.Error(x, found)
	}
	if x, found := p.Next(nil); x != (api.Hash{}) || found {
		t.Error(x, found)
	}
	if x, found := p.Next(known(a, hash(b))); x != hash(c) || !found {
		t.Error(x, found)
	}
	if l := p.Drop(a); !slices.Equal(l, []api.Hash{hash(c), hash(b)}) {
		t.Error(l)
	}
	has(t, p, 2)
}

// P27.1
func TestNew(t *testing.T) {
	for _, most := range []int{0, 1, 50} {
		p := made(t, most)
		for i := range most {
			is(t, "put", p.Put(behind(api.Hash{}, i)), api.OK)
		}
		is(t, "full", p.Put(behind(api.Hash{}, 99)), api.ErrOrphans)
		if p.Len() != most || p.Room() != 0 {
			t.Error(p.Len(), p.Room())
		}
	}
	for _, most := range []int{-1, 51, 1 << 62, -1 << 63} {
		if p, e := orphans.New(most); p != nil || e != api.ErrArg {
			t.Error(most, e)
		}
	}
}

// P27.1
func TestTake(t *testing.T) {
	b, c, d := behind(api.Hash{}, 1), behind(api.Hash{}, 2), behind(api.Hash{}, 3)
	p := made(t, 3, b, c, d)
	if got, e := p.Take(hash(c)); !block.Same(got, c) || e != api.OK {
		t.Error(e)
	}
	has(t, p, 3, b, d)
	if got, e := p.Take(hash(c)); !block.Same(got, api.Block{}) || e != api.ErrTree || p.Has(hash(c)) {
		t.Error(e)
	}
	is(t, "put again", p.Put(c), api.OK)
	has(t, p, 3, b, d, c)
	other := c
	other.Txs = nil // another block with the same header, and so the same hash
	is(t, "same hash", p.Put(other), api.ErrKnown)
}

// P27.3, P27.5
func TestDrop(t *testing.T) {
	a := api.Hash{1}
	b := behind(a, 1)
	c := behind(hash(b), 2)
	d := behind(hash(c), 3)
	e := behind(hash(b), 4)
	other := behind(api.Hash{2}, 5)
	further := behind(hash(other), 6)
	p := made(t, 10, d, further, e, other, c, b)
	for i, x := range []struct {
		from api.Hash
		want []api.Block
	}{{a, []api.Block{d, e, c, b}}, {hash(b), []api.Block{d, e, c}}, {hash(c), []api.Block{d}}, {hash(d), nil}, {api.Hash{2}, []api.Block{further, other}}, {api.Hash{3}, nil}, {hash(other), []api.Block{further}}} {
		q := p.Copy()
		var want []api.Hash
		for _, b := range x.want {
			want = append(want, hash(b))
		}
		if got := q.Drop(x.from); !slices.Equal(got, want) || q.Len() != 6-len(want) || q.Room() != 4+len(want) {
			t.Error(i, got)
		}
		for _, h := range want {
			if q.Has(h) || !p.Has(h) {
				t.Error(i)
			}
		}
		if got := q.Drop(x.from); len(got) != 0 {
			t.Error(i, got)
		}
	}
	has(t, p, 10, d, further, e, other, c, b)
	p.Take(hash(c))
	if got := p.Drop(hash(b)); !slices.Equal(got, []api.Hash{hash(e)}) { // the link to d is gone
		t.Error(got)
	}
}

// P27.5
func TestModel(t *testing.T) {
	r := rand.New(rand.NewSource(27))
	var all []api.Block
	for i := range 40 {
		prev := api.Hash{byte(r.Intn(3))}
		if i > 0 && r.Intn(4) > 0 {
			prev = hash(all[r.Intn(i)])
		}
		all = append(all, behind(prev, i))
	}
	p := made(t, 12)
	var model []api.Block
	at := func(x api.Hash) int {
		return slices.IndexFunc(model, func(b api.Block) bool { return hash(b) == x })
	}
	for range 3000 {
		b := all[r.Intn(len(all))]
		i := at(hash(b))
		switch r.Intn(6) {
		case 0, 1, 2:
			e := p.Put(b)
			if want := map[bool]api.Errno{i >= 0: api.ErrKnown, i < 0 && len(model) == 12: api.ErrOrphans, i < 0 && len(model) < 12: api.OK}[true]; e != want {
				t.Fatal(e, want)
			}
			if e == api.OK {
				model = append(model, b)
			}
		case 3:
			if _, e := p.Take(hash(b)); (e == api.OK) != (i >= 0) {
				t.Fatal(e)
			}
			if i >= 0 {
				model = slices.Delete(model, i, i+1)
			}
		case 4:
			x, found := p.Next(known(hash(b), b.Header.Prev))
			j := slices.IndexFunc(model, func(c api.Block) bool { return c.Header.Prev == hash(b) || c.Header.Prev == b.Header.Prev })
			if found != (j >= 0) || found && x != hash(model[j]) {
				t.Fatal(found, j)
			}
		case 5:
			from, bad := b.Header.Prev, map[api.Hash]int{b.Header.Prev: 1}
			for range model {
				for _, c := range model {
					if bad[c.Header.Prev] > 0 {
						bad[hash(c)] = 1
					}
				}
			}
			var want []api.Hash
			model = slices.DeleteFunc(model, func(c api.Block) bool {
				if bad[c.Header.Prev] > 0 {
					want = append(want, hash(c))
				}
				return bad[c.Header.Prev] > 0
			})
			if got := p.Drop(from); !slices.Equal(got, want) {
				t.Fatal(got, want)
			}
		}
		has(t, p, 12, model...)
	}
}

// P27.1, P27.2, P27.3
func TestNone(t *testing.T) {
	for _, p := range []*orphans.Pool{nil, new(orphans.Pool)} {
		b, e := p.Take(api.Hash{})
		x, found := p.Next(func(api.Hash) bool { return true })
		if e != api.ErrNil || p.Put(api.Block{}) != api.ErrNil || !block.Same(b, api.Block{}) || p.Has(api.Hash{}) || found || x != (api.Hash{}) || p.Drop(api.Hash{}) != nil || p.All() != nil || p.Len() != 0 || p.Room() != 0 || p.Copy() != nil {
			t.Error("none")
		}
	}
}

// P27.4
func TestApart(t *testing.T) {
	b, c := behind(api.Hash{}, 1), behind(api.Hash{}, 2)
	p := made(t, 5, b, c)
	b.Txs[0].In[0].Script[0] = 77
	p.All()[0].Txs[0].In[0].Script[0] = 78
	q := p.Copy()
	q.Take(hash(b))
	q.Put(behind(api.Hash{}, 3))
	has(t, p, 5, behind(api.Hash{}, 1), c)
	got, _ := p.Copy().Take(hash(b))
	got.Txs[0].In[0].Script[0] = 79
	p.Copy().Drop(api.Hash{})
	has(t, p, 5, behind(api.Hash{}, 1), c)
	has(t, q, 5, c, behind(api.Hash{}, 3))
}
