package tx

import (
	"purser/api"
	"purser/octet"
)

// How much of its bytes a transaction is looked for in, at first; and the most that one can take, or somewhat more.
const (
	firstLook = 1 << 10
	mostBytes = 2*api.MaxIns*(api.MaxRaw+64) + 64
)

// First is the transaction with which bytes begin, and the length of its encoding.
func First(b []byte) (t api.Tx, n int, e api.Errno) {
	// A reader copies all that it is shown: one behind the other, transactions are read out of long bytes in time by showing little of them.
	for look := firstLook; ; look *= 4 {
		seen := b[:min(look, len(b))]
		r := reader{eye: octet.Look(seen)}
		if t = r.tx(); !r.failed {
			return t, len(seen) - r.eye.Left(), api.OK
		}
		if len(seen) == len(b) || look >= mostBytes {
			return api.Tx{}, 0, api.ErrTx
		}
	}
}

// Decode is the transaction whose encoding is all of the bytes.
func Decode(b []byte) (api.Tx, api.Errno) {
	t, n, e := First(b)
	if e != api.OK || n != len(b) {
		return api.Tx{}, api.ErrTx
	}
	return t, api.OK
}

// reader reads the parts of a transaction, and remembers whether one of them failed.
type reader struct {
	eye    *octet.Eye
	failed bool
}

func (r *reader) tx() api.Tx {
	var t api.Tx
	t.Version = r.number()
	t.In = several(r, r.in)
	t.Out = several(r, r.out)
	t.Lock = r.number()
	return t
}

// several reads a count, and so many parts, each by one.
func several[T any](r *reader, one func() T) []T {
	n, e := r.eye.Size()
	if e != api.OK || n < 1 || n > api.MaxIns {
		r.failed = true
	}
	var l []T
	for i := uint64(0); i < n && !r.failed; i++ {
		l = append(l, one())
	}
	return l
}

func (r *reader) in() api.In {
	var in api.In
	txid, e := r.eye.Raw(len(in.Prev.Tx))
	r.note(e)
	copy(in.Prev.Tx[:], txid)
	in.Prev.N = r.number()
	in.Script = r.script()
	in.Seq = r.number()
	return in
}

func (r *reader) out() api.Out {
	value, e := r.eye.Fixed(8)
	r.note(e)
	return api.Out{Value: int64(value), Script: r.script()}
}

func (r *reader) number() uint32 {
	n, e := r.eye.Fixed(4)
	r.note(e)
	return uint32(n)
}

func (r *reader) script() []byte {
	b, e := r.eye.Bytes(api.MaxRaw)
	r.note(e)
	return b
}

func (r *reader) note(e api.Errno) {
	if e != api.OK {
		r.failed = true
	}
}
