package coin

import (
	"purser/api"
	"purser/octet"
)

// cutSize is the length of a cut's encoding.
const cutSize = 4

// Encode is the bytes of a block's changes.
func Encode(a api.Apply) ([]byte, api.Errno) {
	if e := Check(a); e != api.OK {
		return nil, e
	}
	var p octet.Pen
	p.Fixed(4, uint64(a.Height))
	p.Raw(a.Block[:])
	p.Fixed(8, uint64(a.Burnt))
	p.Fixed(8, uint64(a.Left))
	p.Size(uint64(len(a.Made)))
	for v := range versions(a.Made) {
		writePoint(&p, v.Point)
		p.Fixed(8, uint64(v.Value))
		p.Fixed(1, flag(v.Base))
		p.Bytes(v.Script)
	}
	p.Size(uint64(len(a.Spends)))
	for _, s := range a.Spends {
		writePoint(&p, s.Point)
		p.Raw(s.Spender[:])
	}
	return p.All(), api.OK
}

func writePoint(p *octet.Pen, o api.Outpoint) {
	p.Raw(o.Tx[:])
	p.Fixed(4, uint64(o.N))
}

// flag is 1 for what is, and 0 for what is not.
func flag(is bool) uint64 {
	if is {
		return 1
	}
	return 0
}

// Decode is the changes whose encoding is all of the bytes.
func Decode(b []byte) (api.Apply, api.Errno) {
	r := reader{eye: octet.Look(b)}
	a := r.apply()
	if r.failed || r.eye.End() != api.OK || Check(a) != api.OK {
		return api.Apply{}, api.ErrCoin
	}
	return a, api.OK
}

// reader reads the parts of a block's changes, and remembers whether one of them failed.
type reader struct {
	eye    *octet.Eye
	failed bool
	height int // of the block
}

func (r *reader) apply() api.Apply {
	var a api.Apply
	a.Height = int(r.number(4))
	r.height = a.Height
	a.Block = r.hash()
	a.Burnt = int64(r.number(8))
	a.Left = int64(r.number(8))
	a.Made = several(r, r.version)
	a.Spends = several(r, r.spend)
	return a
}

// several reads a count, and so many parts, each by one.
func several[T any](r *reader, one func() T) []T {
	n, e := r.eye.Size()
	r.note(e == api.OK && n <= api.MaxMade)
	var l []T
	for i := uint64(0); i < n && !r.failed; i++ {
		l = append(l, one())
	}
	return l
}

func (r *reader) version() api.Version {
	v := api.Version{Point: r.point(), Made: r.height}
	v.Value = int64(r.number(8))
	base := r.number(1)
	r.note(base <= 1)
	v.Base = base == 1
	script, e := r.eye.Bytes(api.MaxRaw)
	r.note(e == api.OK)
	v.Script = script
	return v
}

func (r *reader) spend() api.Spend {
	point := r.point()
	return api.Spend{Point: point, Spender: r.hash()}
}

func (r *reader) point() api.Outpoint {
	txid := r.hash()
	return api.Outpoint{Tx: txid, N: uint32(r.number(4))}
}

func (r *reader) hash() (h api.Hash) {
	b, e := r.eye.Raw(len(h))
	r.note(e == api.OK)
	copy(h[:], b)
	return h
}

func (r *reader) number(size int) uint64 {
	n, e := r.eye.Fixed(size)
	r.note(e == api.OK)
	return n
}

// note remembers a part that is not what it should be.
func (r *reader) note(is bool) {
	if !is {
		r.failed = true
	}
}

// Cut is the bytes of a cut above a height.
func Cut(height int) ([]byte, api.Errno) {
	if !isHeight(height) {
		return nil, api.ErrCoin
	}
	var p octet.Pen
	p.Fixed(cutSize, uint64(height))
	return p.All(), api.OK
}

// CutOf is the height of a cut whose encoding is all of the bytes.
func CutOf(b []byte) (int, api.Errno) {
	if len(b) != cutSize {
		return 0, api.ErrCoin
	}
	n, _ := octet.Look(b).Fixed(cutSize)
	if !isHeight(int(n)) {
		return 0, api.ErrCoin
	}
	return int(n), api.OK
}
