package block_test

import (
	"bytes"
	"crypto/sha256"
	"math/rand"
	"slices"
	"strings"
	"testing"

	"purser/api"
	"purser/block"
	"purser/tx"
)

const firstHash = "000000000019d6689c085ae165831e934ff763ae46a2a6c172b3f1b60a8ce26f"

// published is the header that is published as Bitcoin's first.
func published(t *testing.T) api.Header {
	t.Helper()
	root, e := block.Read("4a5e1e4baab89f3a32518a88c31bc87f618f76673e2cc77ab2127b7afdeda33b")
	if e != api.OK || root[0] != 0x3b || root[31] != 0x4a {
		t.Fatal(root, e)
	}
	return api.Header{Version: 1, Root: root, Time: 1231006505, Bits: 0x1D00FFFF, Nonce: 2083236893}
}

func header(r *rand.Rand) api.Header {
	h := api.Header{Version: r.Uint32(), Time: r.Uint32(), Bits: r.Uint32(), Nonce: r.Uint32()}
	r.Read(h.Prev[:])
	r.Read(h.Root[:])
	return h
}

func transaction(r *rand.Rand, script int) api.Tx {
	b := make([]byte, script)
	r.Read(b)
	return api.Tx{Version: r.Uint32(), In: []api.In{{Prev: api.Outpoint{N: r.Uint32()}, Script: b, Seq: r.Uint32()}}, Out: []api.Out{{Value: r.Int63(), Script: slices.Clone(b)}}}
}

func made(r *rand.Rand, txs, script int) api.Block {
	b := api.Block{Header: header(r)}
	for range txs {
		b.Txs = append(b.Txs, transaction(r, script))
	}
	return b
}

// P7.1
func TestHeader(t *testing.T) {
	h := published(t)
	if got := block.Show(block.Hash(h)); got != firstHash {
		t.Error(got)
	}
	h = api.Header{Version: 0x04030201, Time: 5, Bits: 0x0700, Nonce: 0xFF000000}
	for i := range 32 {
		h.Prev[i], h.Root[i] = byte(i), byte(100+i)
	}
	want := slices.Concat([]byte{1, 2, 3, 4}, h.Prev[:], h.Root[:], []byte{5, 0, 0, 0, 0, 7, 0, 0, 0, 0, 0, 255})
	if got := block.EncodeHeader(h); !bytes.Equal(got, want) {
		t.Errorf("% x", got)
	}
	if got, e := block.DecodeHeader(want); got != h || e != api.OK {
		t.Error(got, e)
	}
	once := sha256.Sum256(want)
	if block.Hash(h) != api.Hash(sha256.Sum256(once[:])) {
		t.Error("hash")
	}
	for _, n := range []int{0, 1, 79, 81, 160} {
		if got, e := block.DecodeHeader(make([]byte, n)); got != (api.Header{}) || e != api.ErrBlock {
			t.Error(n, got, e)
		}
	}
}

// P7.1, P7.5
func TestHeaderBits(t *testing.T) {
	h := header(rand.New(rand.NewSource(1)))
	b := block.EncodeHeader(h)
	for bit := range 640 {
		c := slices.Clone(b)
		c[bit/8] ^= 1 << (bit % 8)
		other, e := block.DecodeHeader(c)
		if e != api.OK || other == h || !bytes.Equal(block.EncodeHeader(other), c) {
			t.Error(bit, e)
		}
	}
}

// P7.2, P7.5
func TestBlocks(t *testing.T) {
	r := rand.New(rand.NewSource(2))
	if b, e := block.Encode(api.Block{}); len(b) != 81 || e != api.OK {
		t.Error(len(b), e)
	}
	for _, x := range []api.Block{{}, made(r, 0, 0), made(r, 1, 0), made(r, 3, 2000), made(r, 252, 1), made(r, 253, 1), made(r, 300, 40)} {
		b, e := block.Encode(x)
		want := block.EncodeHeader(x.Header)
		if n := len(x.Txs); n < 253 {
			want = append(want, byte(n))
		} else {
			want = append(want, 253, byte(n), byte(n>>8))
		}
		ids, f := block.Ids(x)
		for i, y := range x.Txs {
			z, _ := tx.Encode(y)
			want = append(want, z...)
			if id, _ := tx.Id(y); ids[i] != id {
				t.Error(i)
			}
		}
		if !bytes.Equal(b, want) || e != api.OK || f != api.OK || len(ids) != len(x.Txs) {
			t.Error(len(x.Txs), e, f)
		}
		back, e := block.Decode(b)
		if !block.Same(back, x) || e != api.OK {
			t.Error(len(x.Txs), e)
		}
		if again, e := block.Encode(back); !bytes.Equal(again, b) || e != api.OK {
			t.Error(len(x.Txs), e)
		}
	}
}

// P7.2
func TestDecodeWrong(t *testing.T) {
	r := rand.New(rand.NewSource(3))
	good, _ := block.Encode(made(r, 2, 10))
	var l [][]byte
	for cut := range good {
		l = append(l, good[:cut])
	}
	count := func(with ...byte) []byte { return slices.Concat(good[:80], with, good[81:]) }
	l = append(l, append(slices.Clone(good), 0), count(0), count(1), count(3), count(253, 2, 0), count(255, 0, 0, 0, 0, 0, 0, 0, 128), count(255, 255, 255, 255, 255, 255, 255, 255, 255))
	noInput := slices.Clone(good)
	noInput[85] = 0
	l = append(l, noInput)
	for i, b := range l {
		if x, e := block.Decode(b); e != api.ErrBlock || !block.Same(x, api.Block{}) {
			t.Error(i, e)
		}
	}
	bad := made(r, 3, 10)
	bad.Txs[2].In = nil
	b, e := block.Encode(bad)
	ids, f := block.Ids(bad)
	if b != nil || ids != nil || e != api.ErrBlock || f != api.ErrBlock {
		t.Error(b, ids, e, f)
	}
}

// P7.3
func TestShowAndRead(t *testing.T) {
	h := api.Hash{0: 0xAB, 1: 1, 31: 0x0F}
	want := "0f" + strings.Repeat("00", 29) + "01ab"
	if block.Show(h) != want {
		t.Error(block.Show(h))
	}
	if got, e := block.Read(want); got != h || e != api.OK {
		t.Error(got, e)
	}
	for _, s := range []string{"", "x", want[1:], want + "0", want + "00", strings.ToUpper(want), "g" + want[1:], want[:63] + " ", want[:62] + "é", "0x" + want[2:], "/" + want[1:], ":" + want[1:], "`" + want[1:]} {
		if got, e := block.Read(s); got != (api.Hash{}) || e != api.ErrBlock {
			t.Error(s, got, e)
		}
	}
}

// P7.3, P7.4
func TestSameAndCopy(t *testing.T) {
	x := made(rand.New(rand.NewSource(4)), 2, 10)
	before, _ := block.Encode(x)
	for i, change := range []func(c *api.Block){
		func(c *api.Block) { c.Header.Nonce++ }, func(c *api.Block) { c.Header.Prev[0]++ }, func(c *api.Block) { c.Txs[1].Lock++ }, func(c *api.Block) { c.Txs[0].In[0].Script[0]++ },
		func(c *api.Block) { c.Txs[1].Out[0].Script[9]++ }, func(c *api.Block) { c.Txs = c.Txs[:1] }, func(c *api.Block) { c.Txs[0], c.Txs[1] = c.Txs[1], c.Txs[0] },
		func(c *api.Block) { c.Txs[1].In[0].Seq++ }, func(c *api.Block) { c.Txs[0].Out[0].Value++ },
	} {
		c := block.Copy(x)
		if !block.Same(c, x) || !block.Same(x, c) {
			t.Fatal(i)
		}
		change(&c)
		if block.Same(c, x) || block.Same(x, c) {
			t.Error(i)
		}
		if again, _ := block.Encode(x); !bytes.Equal(again, before) {
			t.Fatal("shared", i)
		}
	}
	if !block.Same(api.Block{Txs: []api.Tx{}}, api.Block{}) || !block.Same(block.Copy(api.Block{}), api.Block{}) {
		t.Error("nil and empty")
	}
}

// P7.4
func TestApart(t *testing.T) {
	x := made(rand.New(rand.NewSource(5)), 2, 10)
	b, _ := block.Encode(x)
	before := slices.Clone(b)
	back, _ := block.Decode(b)
	back.Txs[1].Out[0].Script[0]++
	ids, _ := block.Ids(x)
	ids[0][0]++
	if again, _ := block.Ids(x); again[0] == ids[0] || !bytes.Equal(b, before) {
		t.Error("shared")
	}
	b[90]++
	if again, _ := block.Encode(x); !bytes.Equal(again, before) {
		t.Error("shared")
	}
}
