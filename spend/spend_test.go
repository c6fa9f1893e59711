package spend_test

import (
	"bytes"
	"slices"
	"testing"

	"purser/api"
	"purser/sha"
	"purser/sign"
	"purser/spend"
	"purser/tx"
)

func secret(n int) api.Hash { return api.Hash{7, byte(n)} }

func keys(n int) []api.Hash {
	var l []api.Hash
	for i := range n {
		l = append(l, sign.Public(secret(i)))
	}
	return l
}

// transaction has three inputs and two outputs.
func transaction() api.Tx {
	t := api.Tx{Version: 3, Lock: 9}
	for i := range 3 {
		t.In = append(t.In, api.In{Prev: api.Outpoint{Tx: api.Hash{byte(i)}, N: uint32(i)}, Script: bytes.Repeat([]byte{0x51}, i), Seq: uint32(10 + i)})
	}
	for i := range 2 {
		t.Out = append(t.Out, api.Out{Value: int64(100 * i), Script: []byte{byte(i), 1}})
	}
	return t
}

// P14.1
func TestDigest(t *testing.T) {
	x := transaction()
	lock := []byte{0x52, 0x53}
	for n := range 3 {
		y := tx.Copy(x)
		for i := range y.In {
			y.In[i].Script = nil
		}
		y.In[n].Script = lock
		b, _ := tx.Encode(y)
		if got, e := spend.Digest(x, n, lock); got != sha.Twice(append(b, byte(n), 0, 0, 0)) || e != api.OK {
			t.Error(n, got, e)
		}
	}
	for _, n := range []int{-1, 3, 4, 1 << 62} {
		if got, e := spend.Digest(x, n, lock); got != (api.Hash{}) || e != api.ErrSpend {
			t.Error(n, got, e)
		}
	}
}

// P14.1
func TestDigestValid(t *testing.T) {
	x := transaction()
	if _, e := spend.Digest(x, 0, make([]byte, 2000)); e != api.OK {
		t.Error(e)
	}
	if h, e := spend.Digest(x, 0, make([]byte, 2001)); h != (api.Hash{}) || e != api.ErrSpend {
		t.Error(h, e)
	}
	x.In[1].Script = make([]byte, 5000) // replaced
	if _, e := spend.Digest(x, 0, nil); e != api.OK {
		t.Error(e)
	}
	if _, e := spend.Digest(x, 1, nil); e != api.OK {
		t.Error(e)
	}
	x.Out = nil
	for _, y := range []api.Tx{x, {}, {In: make([]api.In, 51), Out: make([]api.Out, 1)}, {In: make([]api.In, 1), Out: []api.Out{{Script: make([]byte, 2001)}}}} {
		if h, e := spend.Digest(y, 0, nil); h != (api.Hash{}) || e != api.ErrSpend {
			t.Error(h, e)
		}
		if e := spend.Check(y, 0, nil); e != api.ErrSpend {
			t.Error(e)
		}
		if b, e := spend.Signed(secret(0), y, 0, nil); b != nil || e != api.ErrSpend {
			t.Error(b, e)
		}
	}
}

// P14.1
func TestCheck(t *testing.T) {
	x := api.Tx{In: make([]api.In, 2), Out: make([]api.Out, 1)}
	x.In[0].Script = []byte{0x51}
	for i, want := range map[int]api.Errno{0: api.OK, 1: api.ErrStack, 2: api.ErrSpend, 3: api.ErrSpend, -1: api.ErrSpend} {
		if e := spend.Check(x, i, nil); e != want {
			t.Error(i, e)
		}
	}
	for _, y := range []struct {
		lock []byte
		want api.Errno
	}{{[]byte{0x51}, api.OK}, {[]byte{0}, api.ErrVerify}, {[]byte{5}, api.ErrOps}, {[]byte{api.OpReturn}, api.ErrReturn}, {bytes.Repeat([]byte{api.OpNop}, 521), api.ErrLong}} {
		if e := spend.Check(x, 0, y.lock); e != y.want {
			t.Error(y, e)
		}
	}
	x.In[0].Script = []byte{api.OpNop}
	if e := spend.Check(x, 0, []byte{0x51}); e != api.ErrVerify {
		t.Error(e)
	}
}

// P14.1
func TestAll(t *testing.T) {
	x := transaction()
	x.In[0].Script, x.In[1].Script, x.In[2].Script = []byte{0x51}, []byte{0x51}, []byte{0x51}
	yes, no, ends := []byte{0x51}, []byte{0}, []byte{api.OpReturn}
	for i, y := range []struct {
		locks [][]byte
		n     int
		want  api.Errno
	}{
		{[][]byte{yes, yes, yes}, 3, api.OK}, {[][]byte{yes, no, ends}, 1, api.ErrVerify}, {[][]byte{ends, no, no}, 0, api.ErrReturn}, {[][]byte{yes, yes, ends}, 2, api.ErrReturn}, {[][]byte{yes, yes}, 0, api.ErrArg},
		{[][]byte{yes, yes, yes, yes}, 0, api.ErrArg}, {nil, 0, api.ErrArg}, {[][]byte{yes, make([]byte, 2001), no}, 1, api.ErrSpend},
	} {
		if n, e := spend.All(x, y.locks); n != y.n || e != y.want {
			t.Error(i, n, e)
		}
	}
	if n, e := spend.All(api.Tx{}, nil); n != 0 || e != api.OK {
		t.Error(n, e)
	}
}

// P14.2
func TestLocks(t *testing.T) {
	k := keys(20)
	if got := spend.PayKey(k[0]); !bytes.Equal(got, slices.Concat([]byte{0x20}, k[0][:], []byte{0xAC})) {
		t.Errorf("% x", got)
	}
	short := []byte("01234567890123456789and more")
	want := slices.Concat([]byte{0x76, 0xA9, 0x14}, short[:20], []byte{0x88, 0xAC})
	if !bytes.Equal(spend.PayShort(short[:20]), want) || !bytes.Equal(spend.PayShort(short), want) || !bytes.Equal(spend.PayShort(short[:21]), want) {
		t.Errorf("% x", spend.PayShort(short))
	}
	if got := spend.PayShort([]byte("abc")); !bytes.Equal(got, []byte("\x76\xA9\x03abc\x88\xAC")) {
		t.Errorf("% x", got)
	}
	if got := spend.PayShort(nil); !bytes.Equal(got, []byte{0x76, 0xA9, 0, 0x88, 0xAC}) {
		t.Errorf("% x", got)
	}
	if got, e := spend.PaySeveral(1, k[:2]); e != api.OK || !bytes.Equal(got, slices.Concat([]byte{1, 1, 0x20}, k[0][:], []byte{0x20}, k[1][:], []byte{1, 2, 0xAE})) {
		t.Errorf("% x, error %d", got, e)
	}
	if got, e := spend.PaySeveral(0, nil); e != api.OK || !bytes.Equal(got, []byte{0, 0, 0xAE}) {
		t.Errorf("% x, error %d", got, e)
	}
	if got, e := spend.PaySeveral(20, k); e != api.OK || len(got) != 2+20*33+2+1 || got[1] != 20 || got[len(got)-2] != 20 {
		t.Errorf("% x, error %d", got, e)
	}
	for _, x := range []struct{ n, keys int }{{-1, 2}, {3, 2}, {1, 0}, {-1, 0}} {
		if got, e := spend.PaySeveral(x.n, k[:x.keys]); got != nil || e != api.ErrArg {
			t.Error(x, got, e)
		}
	}
	if got, e := spend.PaySeveral(1, keys(21)); got != nil || e != api.ErrArg {
		t.Error(got, e)
	}
}

// P14.2, P14.4
func TestSigned(t *testing.T) {
	x := transaction()
	lock := spend.PayKey(keys(1)[0])
	for n := range 3 {
		digest, _ := spend.Digest(x, n, lock)
		got, e := spend.Signed(secret(0), x, n, lock)
		if e != api.OK || !bytes.Equal(got, append([]byte{0x40}, sign.Sign(secret(0), digest)...)) {
			t.Error(n, got, e)
		}
		x.In[n].Script = got
	}
	if n, e := spend.All(x, [][]byte{lock, lock, lock}); n != 3 || e != api.OK {
		t.Error(n, e)
	}
	if b, e := spend.Signed(secret(0), x, 3, lock); b != nil || e != api.ErrSpend {
		t.Error(b, e)
	}
	x.In[0].Script, _ = spend.Signed(secret(1), x, 0, lock)
	if e := spend.Check(x, 0, lock); e != api.ErrVerify {
		t.Error(e)
	}
}

// P14.4
func TestChanges(t *testing.T) {
	x := transaction()
	lock := spend.PayKey(keys(1)[0])
	x.In[1].Script, _ = spend.Signed(secret(0), x, 1, lock)
	for i, change := range []func(y *api.Tx){
		func(y *api.Tx) { y.Version++ }, func(y *api.Tx) { y.Lock++ }, func(y *api.Tx) { y.In[0].Seq++ }, func(y *api.Tx) { y.In[1].Seq++ }, func(y *api.Tx) { y.In[2].Prev.N++ }, func(y *api.Tx) { y.In[1].Prev.Tx[0]++ },
		func(y *api.Tx) { y.Out[0].Value++ }, func(y *api.Tx) { y.Out[1].Script[0]++ }, func(y *api.Tx) { y.Out = y.Out[:1] }, func(y *api.Tx) { y.In = y.In[:2] },
	} {
		y := tx.Copy(x)
		change(&y)
		if e := spend.Check(y, 1, lock); e != api.ErrVerify {
			t.Error(i, e)
		}
	}
	y := tx.Copy(x)
	y.In[0].Script, y.In[2].Script = []byte("other"), make([]byte, 1999)
	if e := spend.Check(y, 1, lock); e != api.OK {
		t.Error(e)
	}
	y.In[0], y.In[1] = y.In[1], y.In[0]
	if e := spend.Check(y, 0, lock); e != api.ErrVerify {
		t.Error(e)
	}
}

// P14.4
func TestShortAndSeveral(t *testing.T) {
	x := transaction()
	k := keys(3)
	lock := spend.PayShort(sha.Short(k[0][:]))
	signed, _ := spend.Signed(secret(0), x, 0, lock)
	x.In[0].Script = slices.Concat(signed, []byte{0x20}, k[0][:])
	if e := spend.Check(x, 0, lock); e != api.OK {
		t.Error(e)
	}
	lock, _ = spend.PaySeveral(2, k)
	first, _ := spend.Signed(secret(0), x, 2, lock)
	third, _ := spend.Signed(secret(2), x, 2, lock)
	x.In[2].Script = slices.Concat([]byte{0}, first, third)
	if e := spend.Check(x, 2, lock); e != api.OK {
		t.Error(e)
	}
	x.In[2].Script = slices.Concat([]byte{0}, third, first)
	if e := spend.Check(x, 2, lock); e != api.ErrVerify {
		t.Error(e)
	}
}

// P14.3
func TestApart(t *testing.T) {
	x := transaction()
	lock := spend.PayKey(keys(1)[0])
	short := []byte("01234567890123456789")
	spend.PayShort(short)[5] = 'X'
	spend.Digest(x, 1, lock)
	spend.Check(x, 2, lock)
	spend.Signed(secret(0), x, 0, lock)
	if !tx.Same(x, transaction()) || !bytes.Equal(lock, spend.PayKey(keys(1)[0])) || string(short) != "01234567890123456789" {
		t.Error("changed")
	}
}
