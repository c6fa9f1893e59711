package whole_test

import (
	"slices"
	"testing"

	"purser/api"
	"purser/block"
	"purser/merkle"
	"purser/whole"
)

const most = 2100000000000000

func coinbase(script string) api.Tx {
	return api.Tx{In: []api.In{{Prev: api.Outpoint{N: 0xFFFFFFFF}, Script: []byte(script)}}, Out: []api.Out{{Value: 50}}}
}

// spending spends outpoints of these numbers, and pays these values.
func spending(points []int, values ...int64) api.Tx {
	var t api.Tx
	for _, p := range points {
		t.In = append(t.In, api.In{Prev: api.Outpoint{Tx: api.Hash{1}, N: uint32(p)}})
	}
	for _, v := range values {
		t.Out = append(t.Out, api.Out{Value: v})
	}
	return t
}

// rooted is a block with the root of its transactions.
func rooted(txs ...api.Tx) api.Block {
	b := api.Block{Txs: txs}
	ids, _ := block.Ids(b)
	b.Header.Root, _ = merkle.Root(ids)
	return b
}

func has(t *testing.T, what string, b api.Block, want ...api.Errno) {
	t.Helper()
	if got := whole.All(b); !slices.Equal(got, want) {
		t.Errorf("%s: %v, not %v", what, got, want)
	}
	first := api.OK
	if len(want) > 0 {
		first = want[0]
	}
	if got := whole.Judge(b); got != first {
		t.Errorf("%s: %d, not %d", what, got, first)
	}
}

// P24.1
func TestSize(t *testing.T) {
	// sized is a block of that many bytes, with a wrong root too.
	sized := func(n int) api.Block {
		b := rooted(coinbase("ab"))
		for i := range 10 {
			x := spending([]int{i}, 1)
			x.Out[0].Script = make([]byte, 1920)
			b.Txs = append(b.Txs, x)
		}
		encoded, _ := block.Encode(b)
		b.Txs[1].Out[0].Script = make([]byte, 1920-(len(encoded)-n))
		return rooted(b.Txs...)
	}
	if b, _ := block.Encode(sized(20000)); len(b) != 20000 {
		t.Fatal(len(b))
	}
	has(t, "just small enough", sized(20000))
	has(t, "too great", sized(20001), api.ErrSize)
	many := []api.Tx{coinbase("ab")}
	for i := range 99 {
		many = append(many, spending([]int{i}, 0))
	}
	has(t, "100", rooted(many...))
	has(t, "101", rooted(append(many, spending([]int{200}, 0))...), api.ErrSize)
	has(t, "no inputs", rooted(coinbase("ab"), spending(nil, 1)), api.ErrSize)
	has(t, "no outputs, no coinbase", rooted(spending([]int{1})), api.ErrSize)
	long := coinbase("ab")
	long.Out[0].Script = make([]byte, 2001)
	has(t, "long script", rooted(long), api.ErrSize)
	has(t, "no others", rooted(coinbase("a"), spending(nil, -1)), api.ErrSize)
}

// P24.1
func TestCoinbase(t *testing.T) {
	has(t, "ab", rooted(coinbase("ab")))
	has(t, "a", rooted(coinbase("a")), api.ErrCoinbase)
	has(t, "100", rooted(coinbase(string(make([]byte, 100)))))
	has(t, "101", rooted(coinbase(string(make([]byte, 101)))), api.ErrCoinbase)
	has(t, "none", rooted(), api.ErrCoinbase, api.ErrRoot)
	if e := whole.Judge(api.Block{}); e != api.ErrCoinbase {
		t.Error(e)
	}
	has(t, "no coinbase", rooted(spending([]int{1}, 1)), api.ErrCoinbase)
	has(t, "no coinbase ahead", rooted(spending([]int{1}, 1), coinbase("ab")), api.ErrCoinbase, api.ErrForm)
	has(t, "two", rooted(coinbase("ab"), coinbase("cd")), api.ErrCoinbase, api.ErrForm)
	two := coinbase("ab")
	two.In = append(two.In, two.In[0])
	has(t, "two inputs", rooted(two), api.ErrCoinbase)
}

// P24.1
func TestRoot(t *testing.T) {
	b := rooted(coinbase("ab"))
	b.Header.Root[0]++
	has(t, "another root", b, api.ErrRoot)
	x, y := spending([]int{1}, 1), spending([]int{2}, 1)
	b = rooted(coinbase("ab"), x, y)
	has(t, "three", b)
	b.Txs = append(b.Txs, y)
	has(t, "swollen, with the same root", b, api.ErrRoot, api.ErrAgain)
	b.Txs = []api.Tx{coinbase("ab"), y, x}
	has(t, "another order", b, api.ErrRoot)
}

// P24.1
func TestForm(t *testing.T) {
	x := spending([]int{1, 2}, 1)
	x.In[1].Prev = api.Outpoint{N: 0xFFFFFFFF}
	has(t, "second input", rooted(coinbase("ab"), x), api.ErrForm)
	x.In[1].Prev.N--
	has(t, "another number", rooted(coinbase("ab"), x))
	x.In[1].Prev = api.Outpoint{Tx: api.Hash{31: 1}, N: 0xFFFFFFFF}
	has(t, "another txid", rooted(coinbase("ab"), x))
}

// P24.1
func TestValue(t *testing.T) {
	for i, x := range []struct {
		values []int64
		fine   bool
	}{{[]int64{0}, true}, {[]int64{-1}, false}, {[]int64{most}, true}, {[]int64{most + 1}, false}, {[]int64{most, 0, 0}, true}, {[]int64{most, 1}, false}, {[]int64{most, -1}, false}, {[]int64{most - 5, 5}, true}, {[]int64{most - 5, 3, 3}, false}, {[]int64{-1 << 63}, false}, {[]int64{1<<63 - 1, 1<<63 - 1, 2}, false}, {slices.Repeat([]int64{most}, 50), false}} {
		b := rooted(coinbase("ab"), spending([]int{1}, x.values...))
		first := coinbase("ab")
		first.Out = spending(nil, x.values...).Out
		if x.fine {
			has(t, "value", b)
			has(t, "value of the coinbase", rooted(first))
		} else if got := whole.All(b); !slices.Equal(got, []api.Errno{api.ErrValue}) || whole.Judge(rooted(first)) != api.ErrValue {
			t.Error(i, got)
		}
	}
	has(t, "by transactions", rooted(coinbase("ab"), spending([]int{1}, most), spending([]int{2}, most)))
}

// P24.1
func TestAgain(t *testing.T) {
	has(t, "in one", rooted(coinbase("ab"), spending([]int{1, 1}, 1)), api.ErrAgain)
	has(t, "in two", rooted(coinbase("ab"), spending([]int{1, 2}, 1), spending([]int{3, 1}, 1)), api.ErrAgain)
	has(t, "others", rooted(coinbase("ab"), spending([]int{1, 2}, 1), spending([]int{3, 4}, 1)))
}

// P24.1
func TestOrder(t *testing.T) {
	x := spending([]int{1, 1, 2}, -1)
	x.In[2].Prev = api.Outpoint{N: 0xFFFFFFFF}
	b := rooted(coinbase("a"), x)
	has(t, "all but the root", b, api.ErrCoinbase, api.ErrForm, api.ErrValue, api.ErrAgain)
	b.Header.Root[5]++
	has(t, "all", b, api.ErrCoinbase, api.ErrRoot, api.ErrForm, api.ErrValue, api.ErrAgain)
	has(t, "example", rooted(coinbase("ab"), spending([]int{1, 1}, 1)), api.ErrAgain)
	has(t, "example", rooted(coinbase("ab"), spending([]int{1}, -1)), api.ErrValue)
}

// P24.2
func TestPoints(t *testing.T) {
	if len(whole.Points(api.Block{})) != 0 || len(whole.Points(rooted(coinbase("ab")))) != 0 || len(whole.Points(rooted(spending([]int{1}, 1)))) != 0 {
		t.Error("the first one's")
	}
	var got []uint32
	for _, p := range whole.Points(rooted(coinbase("ab"), spending([]int{5, 1}, 1), spending([]int{1, 9}, 1), coinbase("cd"))) {
		got = append(got, p.N)
	}
	if !slices.Equal(got, []uint32{5, 1, 1, 9, 0xFFFFFFFF}) {
		t.Error(got)
	}
}

// P24.4
func TestConsequences(t *testing.T) {
	b := rooted(coinbase("ab"), spending([]int{1, 2}, 1), spending([]int{3}, 1))
	for i := range b.Txs {
		c := block.Copy(b)
		c.Txs = append(c.Txs, b.Txs[i])
		if whole.Judge(c) == api.OK || whole.Judge(rooted(c.Txs...)) == api.OK {
			t.Error(i)
		}
	}
	for i, change := range []func(c *api.Block){func(c *api.Block) { c.Header.Time++ }, func(c *api.Block) { c.Header.Bits++ }, func(c *api.Block) { c.Header.Nonce++ }, func(c *api.Block) { c.Header.Version++ }, func(c *api.Block) { c.Header.Prev[0]++ }, func(c *api.Block) { c.Txs[1].Version++ }, func(c *api.Block) { c.Txs[0].Lock++ }, func(c *api.Block) { c.Txs[1].In[0].Seq++ }} {
		c := block.Copy(b)
		change(&c)
		header := c.Header
		c = rooted(c.Txs...)
		header.Root = c.Header.Root
		c.Header = header
		if e := whole.Judge(c); e != api.OK {
			t.Error(i, e)
		}
	}
}

// P24.3
func TestApart(t *testing.T) {
	b := rooted(coinbase("ab"), spending([]int{1}, 1))
	before := block.Copy(b)
	whole.All(b)
	whole.Points(b)[0].N = 77
	if !block.Same(b, before) || whole.Points(b)[0].N != 1 {
		t.Error("changed")
	}
}
