package octet

import (
	"slices"

	"purser/api"
)

// Pen has written bytes; the zero value has written none.
type Pen struct{ written []byte }

// Fixed writes n as a fixed integer of so many bytes.
func (p *Pen) Fixed(size int, n uint64) api.Errno {
	switch {
	case p == nil:
		return api.ErrNil
	case !isSize(size):
		return api.ErrArg
	case width(n) > size:
		return api.ErrOctet
	}
	p.fixed(size, n)
	return api.OK
}

// fixed writes the lowest bytes of n, the least significant first.
func (p *Pen) fixed(size int, n uint64) {
	for range size {
		p.written = append(p.written, byte(n))
		n >>= 8
	}
}

// Size writes the compact size of n.
func (p *Pen) Size(n uint64) api.Errno {
	if p == nil {
		return api.ErrNil
	}
	switch Compact(n) {
	case 1:
		p.fixed(1, n)
	case 3:
		p.written = append(p.written, mark2)
		p.fixed(2, n)
	case 5:
		p.written = append(p.written, mark4)
		p.fixed(4, n)
	default:
		p.written = append(p.written, mark8)
		p.fixed(8, n)
	}
	return api.OK
}

// Bytes writes b as a byte string.
func (p *Pen) Bytes(b []byte) api.Errno {
	if p == nil {
		return api.ErrNil
	}
	p.Size(uint64(len(b)))
	return p.Raw(b)
}

// Raw writes the bytes of all parts as they are.
func (p *Pen) Raw(parts ...[]byte) api.Errno {
	if p == nil {
		return api.ErrNil
	}
	for _, part := range parts {
		p.written = append(p.written, part...)
	}
	return api.OK
}

// Len is how many bytes were written.
func (p *Pen) Len() int {
	if p == nil {
		return 0
	}
	return len(p.written)
}

// All are the bytes that were written.
func (p *Pen) All() []byte {
	if p == nil {
		return nil
	}
	return slices.Clone(p.written)
}
