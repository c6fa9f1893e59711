package store_test

import (
	"bytes"
	"cmp"
	"math/rand"
	"slices"
	"testing"

	"purser/api"
	"purser/coin"
	"purser/store"
)

const most = 2100000000000000

func point(n int) api.Outpoint {
	return api.Outpoint{Tx: api.Hash{byte(n), byte(n >> 8)}, N: uint32(n % 2)}
}

func makes(height, p int, value int64, script string) api.Version {
	return api.Version{Point: point(p), Made: height, Value: value, Script: []byte(script), Base: p%2 == 0}
}

func spends(points ...int) []api.Spend {
	var l []api.Spend
	for _, p := range points {
		l = append(l, api.Spend{Point: point(p), Spender: api.Hash{77, byte(p)}})
	}
	return l
}

func block(height int, made []api.Version, spent []api.Spend) api.Apply {
	return api.Apply{Height: height, Block: api.Hash{byte(height + 1), 3}, Made: made, Spends: spent}
}

func is(t *testing.T, what string, got, want api.Errno) {
	t.Helper()
	if got != want {
		t.Errorf("%s: error %d, not %d", what, got, want)
	}
}

const a, b, c = 1, 2, 3

// example is the store of the chapter's examples.
func example(t *testing.T) *store.Store {
	t.Helper()
	s := store.New()
	is(t, "0", s.Apply(block(0, []api.Version{makes(0, a, 50, "s")}, nil)), api.OK)
	is(t, "1", s.Apply(block(1, []api.Version{makes(1, b, 30, "s"), makes(1, c, 20, "t")}, spends(a))), api.OK)
	return s
}

func same(t *testing.T, what string, got []api.Version, want ...api.Version) {
	t.Helper()
	if !coin.SameVersions(got, want) {
		t.Errorf("%s: %v, not %v", what, got, want)
	}
}

func rich(t *testing.T, s *store.Store, k, height int, want ...api.Rich) {
	t.Helper()
	got, e := s.Rich(k, height)
	if e != api.OK || !slices.EqualFunc(got, want, func(a, b api.Rich) bool { return bytes.Equal(a.Script, b.Script) && a.Balance == b.Balance }) {
		t.Errorf("rich %d at %d: %v, not %v", k, height, got, want)
	}
}

func has(script string, balance int64) api.Rich {
	return api.Rich{Script: []byte(script), Balance: balance}
}

// P22.1, P22.2
func TestExample(t *testing.T) {
	s := example(t)
	for height, want := range []int64{50, 30} {
		if n, e := s.Balance([]byte("s"), height); n != want || e != api.OK {
			t.Error(height, n, e)
		}
	}
	if i, e := s.Info(1); i != (api.Info{Height: 1, Block: api.Hash{2, 3}, Coins: 2, Total: 50}) || e != api.OK {
		t.Error(i, e)
	}
	v, there, e := s.Coin(point(a), 0)
	if !there || e != api.OK {
		t.Error(there, e)
	}
	same(t, "coin", []api.Version{v}, makes(0, a, 50, "s"))
	if v, there, e := s.Coin(point(a), 1); there || e != api.OK || v.Script != nil || v.Value != 0 {
		t.Error(v, there, e)
	}
	if v, there, e := s.Coin(point(a), 2); there || e != api.ErrHeight || v.Script != nil {
		t.Error(v, there, e)
	}
	rich(t, s, 9, 1, has("s", 30), has("t", 20))
	rich(t, s, 9, 0, has("s", 50))
	ended := makes(0, a, 50, "s")
	ended.Spent, ended.Spender = 1, api.Hash{77, a}
	trace, e := s.Trace(point(a), 1)
	same(t, "trace", trace, ended)
	is(t, "trace", e, api.OK)
	trace, _ = s.Trace(point(a), 0)
	same(t, "trace", trace, makes(0, a, 50, "s"))
	same(t, "every", s.Every(), ended, makes(1, b, 30, "s"), makes(1, c, 20, "t"))
	is(t, "cut", s.Cut(0), api.OK)
	rich(t, s, 9, 0, has("s", 50))
	same(t, "every", s.Every(), makes(0, a, 50, "s"))
	if s.Tip() != 0 {
		t.Error(s.Tip())
	}
}

// P22.1
func TestFits(t *testing.T) {
	for i, x := range []struct {
		change api.Apply
		want   api.Errno
	}{
		{block(2, nil, nil), api.OK}, {block(1, nil, nil), api.ErrStore}, {block(3, nil, nil), api.ErrStore}, {block(0, nil, nil), api.ErrStore}, {block(-1, nil, nil), api.ErrStore},
		{block(2, []api.Version{makes(1, 9, 1, "")}, nil), api.ErrStore},                   // not valid
		{block(2, []api.Version{makes(2, b, 1, "")}, nil), api.ErrStore},                   // is there
		{block(2, []api.Version{makes(2, b, 1, "")}, spends(b)), api.ErrStore},             // is there at the tip, though it is spent
		{block(2, []api.Version{makes(2, a, 1, "")}, nil), api.OK},                         // is spent
		{block(2, nil, spends(a)), api.ErrStore}, {block(2, nil, spends(9)), api.ErrStore}, // is not there
		{block(2, nil, spends(b, c)), api.OK}, {block(2, nil, spends(b, b)), api.ErrStore}, // twice
		{block(2, []api.Version{makes(2, 9, 7, "x")}, spends(9)), api.OK},                         // its own
		{block(2, []api.Version{makes(2, 9, 7, "x")}, spends(b, 9, c)), api.OK},                   // its own
		{block(2, []api.Version{makes(2, 9, most-50, "x")}, nil), api.OK},                         // the greatest sum
		{block(2, []api.Version{makes(2, 9, most-49, "x")}, nil), api.ErrStore},                   // above it
		{block(2, []api.Version{makes(2, 9, most-20, "x")}, spends(b)), api.OK},                   // what is spent is off
		{block(2, []api.Version{makes(2, 8, most, "x"), makes(2, 9, 1, "x")}, nil), api.ErrStore}, // above it
		{block(2, []api.Version{makes(2, 8, most, "x"), makes(2, 9, most, "x")}, spends(9, b, c)), api.OK},
	} {
		s := example(t)
		before := s.Copy()
		if e := s.Apply(x.change); e != x.want || s.Tip() != map[api.Errno]int{api.OK: 2, api.ErrStore: 1}[e] {
			t.Error(i, e, s.Tip())
		}
		if x.want == api.OK {
			is(t, "cut", s.Cut(1), api.OK)
		}
		equal(t, s, before)
	}
}

// P22.1
func TestFitsAtZero(t *testing.T) {
	s := store.New()
	is(t, "spends what is not there", s.Apply(block(0, nil, spends(a))), api.ErrStore)
	is(t, "spends its own at height 0", s.Apply(block(0, []api.Version{makes(0, a, 1, "")}, spends(a))), api.ErrStore)
	is(t, "height 1", s.Apply(block(1, nil, nil)), api.ErrStore)
	is(t, "above the greatest", s.Apply(block(0, []api.Version{makes(0, a, most, ""), makes(0, b, 1, "")}, nil)), api.ErrStore)
	if s.Tip() != -1 || len(s.Every()) != 0 {
		t.Error(s.Tip())
	}
	is(t, "the greatest", s.Apply(block(0, []api.Version{makes(0, a, most, ""), makes(0, b, 0, "")}, nil)), api.OK)
}

// P22.1: so many great values that their sum needs more than 63 bits.
func TestGreatSums(t *testing.T) {
	s := store.New()
	is(t, "0", s.Apply(block(0, nil, nil)), api.OK)
	var made []api.Version
	var spent []int
	for p := range 5000 {
		made = append(made, makes(1, p, most, ""))
		spent = append(spent, p)
	}
	is(t, "not spent", s.Apply(block(1, made, nil)), api.ErrStore)
	is(t, "two are left", s.Apply(block(1, made, spends(spent[2:]...))), api.ErrStore)
	is(t, "one is left", s.Apply(block(1, made, spends(spent[1:]...))), api.OK)
	if i, e := s.Info(1); i.Coins != 1 || i.Total != most || e != api.OK {
		t.Error(i, e)
	}
	rich(t, s, 5, 1, has("", most))
	is(t, "cut", s.Cut(0), api.OK)
	if len(s.Every()) != 0 {
		t.Error(len(s.Every()))
	}
}

// P22.1, P22.2
func TestBurntAndLeft(t *testing.T) {
	s := store.New()
	for height, x := range [][2]int64{{5, 0}, {0, 7}, {1, 1}, {most - 6, 0}, {0, most - 8}} {
		next := block(height, nil, nil)
		next.Burnt, next.Left = x[0], x[1]
		is(t, "apply", s.Apply(next), api.OK)
	}
	for height, x := range [][2]int64{{5, 0}, {5, 7}, {6, 8}, {most, 8}, {most, most}} {
		if i, e := s.Info(height); e != api.OK || i.Burnt != x[0] || i.Left != x[1] || i.Height != height || i.Block != (api.Hash{byte(height + 1), 3}) {
			t.Error(height, i, e)
		}
	}
	for i, x := range [][2]int64{{1, 0}, {0, 1}} {
		next := block(5, nil, nil)
		next.Burnt, next.Left = x[0], x[1]
		if e := s.Apply(next); e != api.ErrStore {
			t.Error(i, e)
		}
	}
	is(t, "no more", s.Apply(block(5, nil, nil)), api.OK)
}

// P22.1
func TestCut(t *testing.T) {
	s := example(t)
	for _, height := range []int{-2, 2, 3, 1 << 62, -1 << 63} {
		is(t, "cut", s.Cut(height), api.ErrHeight)
	}
	is(t, "nothing cut", s.Cut(1), api.OK)
	equal(t, s, example(t))
	is(t, "all cut", s.Cut(-1), api.OK)
	is(t, "again", s.Cut(-1), api.OK)
	equal(t, s, store.New())
	is(t, "0", s.Cut(0), api.ErrHeight)
	is(t, "anew", s.Apply(block(0, []api.Version{makes(0, a, 50, "s")}, nil)), api.OK)
	is(t, "anew", s.Apply(block(1, []api.Version{makes(1, b, 30, "s"), makes(1, c, 20, "t")}, spends(a))), api.OK)
	equal(t, s, example(t))
}

// P22.2
func TestQueriesWrong(t *testing.T) {
	for i, x := range []struct {
		s       *store.Store
		heights []int
		want    api.Errno
	}{{nil, []int{-1, 0}, api.ErrNil}, {new(store.Store), []int{-1, 0}, api.ErrNil}, {store.New(), []int{-1, 0, 1}, api.ErrHeight}, {example(t), []int{-1, 2, 1 << 62, -1 << 63}, api.ErrHeight}} {
		for _, height := range x.heights {
			hash, e0 := x.s.Block(height)
			v, there, e1 := x.s.Coin(point(a), height)
			info, e2 := x.s.Info(height)
			balance, e3 := x.s.Balance([]byte("s"), height)
			list, e4 := x.s.Rich(5, height)
			trace, e5 := x.s.Trace(point(a), height)
			for j, e := range []api.Errno{e0, e1, e2, e3, e4, e5} {
				if e != x.want {
					t.Error(i, height, j, e)
				}
			}
			if hash != (api.Hash{}) || v.Script != nil || there || info != (api.Info{}) || balance != 0 || list != nil || trace != nil {
				t.Error(i, height)
			}
		}
	}
}

// P22.1, P22.3
func TestNone(t *testing.T) {
	for _, s := range []*store.Store{nil, new(store.Store)} {
		if s.Tip() != -1 || s.Every() != nil || s.Copy() != nil || s.Apply(api.Apply{Height: -1}) != api.ErrNil || s.Cut(-2) != api.ErrNil {
			t.Error("none")
		}
	}
	if s := store.New(); s.Tip() != -1 || len(s.Every()) != 0 || s.Copy().Tip() != -1 {
		t.Error("new")
	}
}

// P22.2
func TestRich(t *testing.T) {
	s := store.New()
	s.Apply(block(0, []api.Version{makes(0, 1, 5, "b"), makes(0, 2, 7, "c"), makes(0, 3, 5, "a"), makes(0, 4, 0, "zero"), makes(0, 5, 2, "b"), makes(0, 6, 9, "")}, nil))
	all := []api.Rich{has("", 9), has("b", 7), has("c", 7), has("a", 5), has("zero", 0)}
	for k := -2; k < 9; k++ {
		rich(t, s, k, 0, all[:min(max(0, k), 5)]...)
	}
	rich(t, s, 1<<62, 0, all...)
	rich(t, s, -1<<63, 0)
	s.Apply(block(1, []api.Version{makes(1, 7, 0, "b"), makes(1, 8, 3, "gone")}, spends(1, 5, 4, 8)))
	rich(t, s, 9, 1, has("", 9), has("c", 7), has("a", 5), has("b", 0))
	rich(t, s, 9, 0, all...)
}

// entry is what the model knows of a version: that it was made, and when it was spent.
type entry struct {
	v     api.Version
	spent int
	by    api.Hash
}

// equal tells of two stores that answer differently.
func equal(t *testing.T, got, want *store.Store) {
	t.Helper()
	same(t, "every", got.Every(), want.Every()...)
	if got.Tip() != want.Tip() {
		t.Fatal(got.Tip(), want.Tip())
	}
	for height := range want.Tip() + 1 {
		a, _ := got.Info(height)
		b, _ := want.Info(height)
		h, _ := got.Block(height)
		if a != b || h != b.Block {
			t.Error(height, a, b, h)
		}
		l, _ := want.Rich(1000, height)
		rich(t, got, 1000, height, l...)
	}
}

// P22.2, P22.5
func TestModel(t *testing.T) {
	r := rand.New(rand.NewSource(22))
	s := store.New()
	var all []entry // versions of all blocks, in the order in which they were made
	live := func(height int) []int {
		var l []int
		for i, x := range all {
			if x.v.Made <= height && (x.spent == 0 || x.spent > height) {
				l = append(l, i)
			}
		}
		return l
	}
	var kept []*store.Store
	for height := range 40 {
		kept = append(kept, s.Copy())
		next := block(height, nil, nil)
		used := map[api.Outpoint]int{}
		for _, i := range live(height - 1) {
			used[all[i].v.Point] = 1
		}
		for range r.Intn(5) {
			v := makes(height, r.Intn(40), r.Int63n(20), string(rune('a'+r.Intn(4))))
			if used[v.Point]++; used[v.Point] == 1 {
				next.Made = append(next.Made, v)
				all = append(all, entry{v: v})
			}
		}
		for _, i := range live(height) {
			if height > 0 && r.Intn(3) == 0 {
				spend := api.Spend{Point: all[i].v.Point, Spender: api.Hash{byte(r.Intn(256)), 1}}
				next.Spends = append(next.Spends, spend)
				all[i].spent, all[i].by = height, spend.Spender
			}
		}
		is(t, "apply", s.Apply(next), api.OK)
		once := s.Copy()
		once.Cut(height - 1)
		equal(t, once, kept[height])
	}
	for height := range 40 {
		agrees(t, s, all, height)
	}
	for height := 39; height >= -1; height-- {
		is(t, "cut", s.Cut(height), api.OK)
		if height >= 0 && height < 39 {
			equal(t, s, kept[height+1])
		}
	}
}

// agrees tells of a store that answers otherwise than the model at a height.
func agrees(t *testing.T, s *store.Store, all []entry, height int) {
	t.Helper()
	balances, coins, total := map[string]int64{}, 0, int64(0)
	traces := map[api.Outpoint][]api.Version{}
	exists := map[api.Outpoint]api.Version{}
	for _, x := range all {
		if x.v.Made > height {
			continue
		}
		v := x.v
		if x.spent != 0 && x.spent <= height {
			v.Spent, v.Spender = x.spent, x.by
		} else {
			coins++
			total += v.Value
			balances[string(v.Script)] += v.Value
			exists[v.Point] = v
		}
		traces[v.Point] = append(traces[v.Point], v)
	}
	if i, e := s.Info(height); e != api.OK || i.Coins != coins || i.Total != total {
		t.Error(height, i, coins, total)
	}
	var list []api.Rich
	sum := int64(0)
	for script, want := range balances {
		list = append(list, has(script, want))
		n, e := s.Balance([]byte(script), height)
		if n != want || e != api.OK {
			t.Error(height, script, n, want)
		}
		sum += n
	}
	if sum != total {
		t.Error(height, sum, total)
	}
	slices.SortFunc(list, func(a, b api.Rich) int {
		return cmp.Or(cmp.Compare(b.Balance, a.Balance), bytes.Compare(a.Script, b.Script))
	})
	rich(t, s, 100, height, list...)
	for p := range 40 {
		v, there, e := s.Coin(point(p), height)
		want, wanted := exists[point(p)]
		if there != wanted || e != api.OK || !coin.SameVersions([]api.Version{v}, []api.Version{want}) {
			t.Error(height, p, v, want)
		}
		trace, e := s.Trace(point(p), height)
		same(t, "trace", trace, traces[point(p)]...)
		is(t, "trace", e, api.OK)
	}
}

// P22.4
func TestApart(t *testing.T) {
	s := store.New()
	next := block(0, []api.Version{makes(0, a, 50, "script")}, nil)
	s.Apply(next)
	next.Made[0].Script[0] = 'X'
	v, _, _ := s.Coin(point(a), 0)
	trace, _ := s.Trace(point(a), 0)
	list, _ := s.Rich(1, 0)
	for _, script := range [][]byte{v.Script, trace[0].Script, list[0].Script, s.Every()[0].Script} {
		script[1] = 'Y'
	}
	one, two := s.Copy(), s.Copy()
	one.Apply(block(1, []api.Version{makes(1, b, 1, "one")}, spends(a)))
	two.Apply(block(1, []api.Version{makes(1, c, 2, "two")}, nil))
	one.Cut(-1)
	s.Cut(-1)
	s.Apply(block(0, []api.Version{makes(0, a, 50, "script")}, nil))
	same(t, "shared", s.Every(), makes(0, a, 50, "script"))
	same(t, "shared", two.Every(), makes(0, a, 50, "script"), makes(1, c, 2, "two"))
	if i, _ := two.Info(1); i.Total != 52 {
		t.Error(i)
	}
}
