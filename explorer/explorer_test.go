package explorer_test

import (
	"bytes"
	"math/rand"
	"testing"

	"purser/api"
	"purser/block"
	"purser/coin"
	"purser/explorer"
	"purser/octet"
	"purser/store"
	"purser/tx"
)

func point(n int) api.Outpoint { return api.Outpoint{Tx: api.Hash{byte(n), 9}, N: uint32(n)} }

// valid are requests with their encodings.
func valid() map[string]api.Request {
	hash := string(append([]byte{7}, make([]byte, 31)...))
	at := "\x03\x09" + string(make([]byte, 30)) + "\x03\x00\x00\x00"
	return map[string]api.Request{
		"\x01":                                 {Kind: api.AskSubmit},
		"\x01any bytes":                        {Kind: api.AskSubmit, Block: []byte("any bytes")},
		"\x02" + at + "\x02\x01\x00\x00":       {Kind: api.AskCoin, Point: point(3), Height: 258},
		"\x03\xFF\xFF\xFF\xFF":                 {Kind: api.AskInfo, Height: 1<<32 - 1},
		"\x04\x02\x01\x00\x00\x02ab":           {Kind: api.AskBalance, Height: 258, Script: []byte("ab")},
		"\x04\x00\x00\x00\x00\x00":             {Kind: api.AskBalance},
		"\x05\x02\x01\x00\x00\x03\x00\x00\x00": {Kind: api.AskRich, Height: 258, K: 3},
		"\x06" + at + "\x00\x00\x00\x00":       {Kind: api.AskTrace, Point: point(3)},
		"\x07\x05\x00\x00\x00":                 {Kind: api.AskAt, Height: 5},
		"\x08" + hash:                          {Kind: api.AskBlock, Hash: api.Hash{7}},
		"\x09" + hash:                          {Kind: api.AskTx, Hash: api.Hash{7}},
		"\x0A":                                 {Kind: api.AskTip},
		"\x0B":                                 {Kind: api.AskCheck},
		"\x01" + string(make([]byte, 200000)):  {Kind: api.AskSubmit, Block: make([]byte, 200000)},
		"\x04\x01\x00\x00\x00\xFD\xD0\x07" + string(make([]byte, 2000)): {Kind: api.AskBalance, Height: 1, Script: make([]byte, 2000)},
	}
}

func same(a, b api.Request) bool {
	return a.Kind == b.Kind && a.Point == b.Point && a.Height == b.Height && a.K == b.K && a.Hash == b.Hash && bytes.Equal(a.Script, b.Script) && bytes.Equal(a.Block, b.Block)
}

// P29.1, P29.4
func TestRequests(t *testing.T) {
	for encoding, r := range valid() {
		b, e := explorer.Encode(r)
		if string(b) != encoding || e != api.OK || explorer.Check(r) != api.OK {
			t.Errorf("%.40q: %.40q, error %d", encoding, b, e)
		}
		back, e := explorer.Decode([]byte(encoding))
		if !same(back, r) || e != api.OK {
			t.Errorf("%.40q: error %d", encoding, e)
		}
		if r.Kind == api.AskSubmit {
			continue
		}
		for _, wrong := range []string{encoding + "\x00", encoding[:len(encoding)-1]} {
			if back, e := explorer.Decode([]byte(wrong)); e != api.ErrParse || !same(back, api.Request{}) {
				t.Errorf("%.40q: error %d", wrong, e)
			}
		}
	}
}

// P29.1
func TestRequestsWrong(t *testing.T) {
	for _, b := range []string{"", "\x00", "\x0C", "\xFF", "\x0C\x00", "\x01" + string(make([]byte, 200001)), "\x04\x00\x00\x00\x00", "\x04\x00\x00\x00\x00\x02a", "\x04\x00\x00\x00\x00\xFD\x01\x00a", "\x04\x01\x00\x00\x00\xFD\xD1\x07" + string(make([]byte, 2001)), "\x03\x01"} {
		if r, e := explorer.Decode([]byte(b)); e != api.ErrParse || !same(r, api.Request{}) {
			t.Errorf("%.20q: error %d", b, e)
		}
	}
	wrong := []api.Request{{}, {Kind: -1}, {Kind: 12}, {Kind: 256 + 10}, {Kind: api.AskSubmit, Block: make([]byte, 200001)}, {Kind: api.AskBalance, Script: make([]byte, 2001)}}
	has := map[int]string{1: "b", 2: "ph", 3: "h", 4: "hs", 5: "hk", 6: "ph", 7: "h", 8: "x", 9: "x", 10: "", 11: ""}
	for kind, fields := range has {
		for field, set := range map[byte]func(r *api.Request){
			'b': func(r *api.Request) { r.Block = []byte{0} }, 'p': func(r *api.Request) { r.Point.N = 1 }, 'h': func(r *api.Request) { r.Height = 1 }, 's': func(r *api.Request) { r.Script = []byte{0} }, 'k': func(r *api.Request) { r.K = 1 }, 'x': func(r *api.Request) { r.Hash[31] = 1 },
		} {
			r := api.Request{Kind: kind}
			set(&r)
			if !bytes.Contains([]byte(fields), []byte{field}) {
				wrong = append(wrong, r)
			} else if e := explorer.Check(r); e != api.OK {
				t.Error(kind, field, e)
			}
		}
	}
	for i, r := range wrong {
		if b, e := explorer.Encode(r); b != nil || e != api.ErrParse || explorer.Check(r) != api.ErrParse {
			t.Error(i, e)
		}
	}
	empty := api.Request{Kind: api.AskTip, Script: []byte{}, Block: []byte{}}
	if b, e := explorer.Encode(empty); string(b) != "\x0A" || e != api.OK {
		t.Error(e)
	}
}

// source is a store, and blocks by their hashes.
type source struct {
	store  *store.Store
	blocks map[api.Hash]api.Block
}

func (s source) Store() *store.Store { return s.store }

func (s source) Block(h api.Hash) (api.Block, bool) {
	b, is := s.blocks[h]
	return b, is
}

// transaction is one that n makes another one.
func transaction(n int) api.Tx {
	return api.Tx{Lock: uint32(n), In: []api.In{{}}, Out: []api.Out{{Value: int64(n)}}}
}

func id(n int) api.Hash {
	h, _ := tx.Id(transaction(n))
	return h
}

// body is a block with these transactions.
func body(nonce int, txs ...int) api.Block {
	b := api.Block{Header: api.Header{Nonce: uint32(nonce)}}
	for _, n := range txs {
		b.Txs = append(b.Txs, transaction(n))
	}
	return b
}

func hash(b api.Block) api.Hash { return block.Hash(b.Header) }

// example has blocks at four heights, the last of them the second one again, and one that is aside.
func example(t *testing.T) source {
	t.Helper()
	s := source{store.New(), map[api.Hash]api.Block{}}
	bodies := []api.Block{body(0, 1, 2), body(1, 3, 4, 3), body(2, 1, 5), body(3, 6)}
	for _, b := range bodies {
		s.blocks[hash(b)] = b
	}
	version := func(p, made int, value int64, script string) api.Version {
		return api.Version{Point: point(p), Made: made, Value: value, Script: []byte(script), Base: p == 1}
	}
	for height, a := range []api.Apply{
		{Made: []api.Version{version(1, 0, 50, "s"), version(2, 0, 0x0102, "t")}, Burnt: 3, Left: 4},
		{Made: []api.Version{version(3, 1, 30, "s")}, Spends: []api.Spend{{Point: point(1), Spender: api.Hash{0xAA}}}, Left: 20},
		{Made: []api.Version{version(1, 2, 7, "u")}},
		{},
	} {
		a.Height, a.Block = height, hash(bodies[min(height, 2)])
		if height == 3 {
			a.Block = hash(bodies[1])
		}
		if e := s.store.Apply(a); e != api.OK {
			t.Fatal(height, e)
		}
	}
	return s
}

// parts is bytes written one behind the other: hashes, numbers by sizes, and texts.
func parts(l ...any) []byte {
	var p octet.Pen
	for i := 0; i < len(l); i++ {
		switch x := l[i].(type) {
		case int:
			p.Fixed(x, uint64(l[i+1].(int)))
			i++
		case string:
			p.Bytes([]byte(x))
		case api.Hash:
			p.Raw(x[:])
		case []byte:
			p.Raw(x)
		}
	}
	return p.All()
}

func encoded(b api.Block) []byte {
	e, _ := block.Encode(b)
	return e
}

func encodedTx(n int) []byte {
	e, _ := tx.Encode(transaction(n))
	return e
}

// P29.2
func TestAnswers(t *testing.T) {
	s := example(t)
	zero, second := hash(body(0)), hash(body(1))
	for i, x := range []struct {
		r    api.Request
		want []byte
	}{
		{api.Request{Kind: api.AskCoin, Point: point(1), Height: 0}, parts(1, 1, 8, 50, 4, 0, 1, 1, "s")},
		{api.Request{Kind: api.AskCoin, Point: point(1), Height: 1}, parts(1, 0)},
		{api.Request{Kind: api.AskCoin, Point: point(1), Height: 2}, parts(1, 1, 8, 7, 4, 2, 1, 1, "u")},
		{api.Request{Kind: api.AskCoin, Point: point(3), Height: 3}, parts(1, 1, 8, 30, 4, 1, 1, 0, "s")},
		{api.Request{Kind: api.AskCoin, Point: point(9), Height: 3}, parts(1, 0)},
		{api.Request{Kind: api.AskInfo, Height: 0}, parts(4, 0, zero, 4, 2, 8, 50+0x0102, 8, 3, 8, 4)},
		{api.Request{Kind: api.AskInfo, Height: 1}, parts(4, 1, second, 4, 2, 8, 30+0x0102, 8, 3, 8, 24)},
		{api.Request{Kind: api.AskBalance, Height: 0, Script: []byte("s")}, parts(8, 50)},
		{api.Request{Kind: api.AskBalance, Height: 1, Script: []byte("s")}, parts(8, 30)},
		{api.Request{Kind: api.AskBalance, Height: 1}, parts(8, 0)},
		{api.Request{Kind: api.AskRich, Height: 2, K: 2}, parts(1, 2, "t", 8, 0x0102, "s", 8, 30)},
		{api.Request{Kind: api.AskRich, Height: 2, K: 1<<32 - 1}, parts(1, 3, "t", 8, 0x0102, "s", 8, 30, "u", 8, 7)},
		{api.Request{Kind: api.AskRich, Height: 2}, parts(1, 0)},
		{api.Request{Kind: api.AskTrace, Height: 0, Point: point(1)}, parts(1, 1, 8, 50, 4, 0, 1, 1, "s", 4, 0, api.Hash{})},
		{api.Request{Kind: api.AskTrace, Height: 3, Point: point(1)}, parts(1, 2, 8, 50, 4, 0, 1, 1, "s", 4, 1, api.Hash{0xAA}, 8, 7, 4, 2, 1, 1, "u", 4, 0, api.Hash{})},
		{api.Request{Kind: api.AskTrace, Height: 3, Point: point(9)}, parts(1, 0)},
		{api.Request{Kind: api.AskAt, Height: 0}, parts(zero, encoded(body(0, 1, 2)))},
		{api.Request{Kind: api.AskAt, Height: 3}, parts(second, encoded(body(1, 3, 4, 3)))},
		{api.Request{Kind: api.AskBlock, Hash: zero}, parts(4, 0, encoded(body(0, 1, 2)))},
		{api.Request{Kind: api.AskBlock, Hash: second}, parts(4, 3, encoded(body(1, 3, 4, 3)))},
		{api.Request{Kind: api.AskBlock, Hash: hash(body(3))}, parts(4, 0xFFFFFFFF, encoded(body(3, 6)))},
		{api.Request{Kind: api.AskTx, Hash: id(1)}, parts(hash(body(2)), 4, 2, 4, 0, encodedTx(1))},
		{api.Request{Kind: api.AskTx, Hash: id(2)}, parts(zero, 4, 0, 4, 1, encodedTx(2))},
		{api.Request{Kind: api.AskTx, Hash: id(3)}, parts(second, 4, 3, 4, 0, encodedTx(3))},
		{api.Request{Kind: api.AskTx, Hash: id(4)}, parts(second, 4, 3, 4, 1, encodedTx(4))},
		{api.Request{Kind: api.AskTip}, parts(4, 3, second)},
	} {
		if got, e := explorer.Answer(s, x.r); !bytes.Equal(got, x.want) || e != api.OK {
			t.Errorf("%d: % x, error %d, not % x", i, got, e, x.want)
		}
	}
}

// P29.2
func TestAnswersWrong(t *testing.T) {
	s := example(t)
	fails := func(what string, from explorer.Source, r api.Request, want api.Errno) {
		t.Helper()
		if b, e := explorer.Answer(from, r); b != nil || e != want {
			t.Errorf("%s: % x, error %d, not %d", what, b, e, want)
		}
	}
	fails("nil", nil, api.Request{}, api.ErrNil)
	fails("no store", source{}, api.Request{}, api.ErrNil)
	fails("no request", s, api.Request{}, api.ErrParse)
	fails("stray field", s, api.Request{Kind: api.AskTip, Height: 1}, api.ErrParse)
	fails("parse ahead of the rest", s, api.Request{Kind: api.AskCheck, Height: 99}, api.ErrParse)
	fails("submit", s, api.Request{Kind: api.AskSubmit}, api.ErrArg)
	fails("check", s, api.Request{Kind: api.AskCheck}, api.ErrArg)
	for _, kind := range []int{api.AskCoin, api.AskInfo, api.AskBalance, api.AskRich, api.AskTrace, api.AskAt} {
		fails("above the tip", s, api.Request{Kind: kind, Height: 4}, api.ErrHeight)
		fails("far above the tip", s, api.Request{Kind: kind, Height: 1<<32 - 1}, api.ErrHeight)
		fails("no blocks", source{store: store.New()}, api.Request{Kind: kind}, api.ErrHeight)
	}
	fails("no blocks", source{store: store.New()}, api.Request{Kind: api.AskTip}, api.ErrUnknown)
	fails("no blocks", source{store: store.New()}, api.Request{Kind: api.AskTx}, api.ErrUnknown)
	fails("no such block", s, api.Request{Kind: api.AskBlock}, api.ErrUnknown)
	fails("a block aside", s, api.Request{Kind: api.AskTx, Hash: id(6)}, api.ErrUnknown)
	fails("no such transaction", s, api.Request{Kind: api.AskTx, Hash: hash(body(0))}, api.ErrUnknown)
	delete(s.blocks, hash(body(0)))
	fails("a block that is missing", s, api.Request{Kind: api.AskAt, Height: 0}, api.ErrUnknown)
	fails("a block that is missing", s, api.Request{Kind: api.AskTx, Hash: id(2)}, api.ErrUnknown)
	bad := body(0, 1, 2)
	bad.Txs[0].In = nil
	s.blocks[hash(bad)] = bad
	fails("a block that is not valid", s, api.Request{Kind: api.AskAt, Height: 0}, api.ErrUnknown)
	fails("a block that is not valid", s, api.Request{Kind: api.AskBlock, Hash: hash(bad)}, api.ErrUnknown)
	fails("a block that is not valid", s, api.Request{Kind: api.AskBlock, Hash: api.Hash{1}}, api.ErrUnknown)
	if b, e := explorer.Answer(s, api.Request{Kind: api.AskTip}); len(b) != 36 || e != api.OK {
		t.Error(e)
	}
}

// P29.4
func TestConsequences(t *testing.T) {
	s := example(t)
	for height := range uint32(4) {
		info, _ := explorer.Answer(s, api.Request{Kind: api.AskInfo, Height: height})
		rich, _ := explorer.Answer(s, api.Request{Kind: api.AskRich, Height: height, K: 100})
		eye := octet.Look(rich)
		n, _ := eye.Size()
		sum := uint64(0)
		for range n {
			script, _ := eye.Bytes(2000)
			balance, _ := eye.Fixed(8)
			sum += balance
			if b, e := explorer.Answer(s, api.Request{Kind: api.AskBalance, Height: height, Script: script}); !bytes.Equal(b, parts(8, int(balance))) || e != api.OK {
				t.Error(height, script, b, e)
			}
		}
		if eye.End() != api.OK || !bytes.Equal(info[40:48], parts(8, int(sum))) {
			t.Error(height, info)
		}
	}
	r := rand.New(rand.NewSource(29))
	kinds := []byte{0, 1, 2, 3, 4, 5, 6, 7, 8, 9, 10, 11, 12}
	for range 20000 {
		b := make([]byte, r.Intn(46))
		for i := range b {
			b[i] = kinds[r.Intn(len(kinds))]
		}
		x, e := explorer.Decode(b)
		if e != api.OK {
			continue
		}
		if back, e := explorer.Encode(x); !bytes.Equal(back, b) || e != api.OK {
			t.Fatal(b, back, e)
		}
	}
}

// P29.3
func TestApart(t *testing.T) {
	b := []byte("\x04\x00\x00\x00\x00\x02ab")
	r, _ := explorer.Decode(b)
	b[6] = 'X'
	submit := []byte("\x01abc")
	x, _ := explorer.Decode(submit)
	submit[1] = 'X'
	if string(r.Script) != "ab" || string(x.Block) != "abc" {
		t.Error(r, x)
	}
	s := example(t)
	before := s.store.Every()
	got, _ := explorer.Answer(s, api.Request{Kind: api.AskRich, Height: 2, K: 3})
	clear(got)
	if !coin.SameVersions(s.store.Every(), before) {
		t.Error("changed")
	}
}
