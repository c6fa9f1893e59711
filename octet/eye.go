package octet

import (
	"slices"

	"purser/api"
)

// Eye reads bytes. Only Look makes one that reads: made tells it from the zero value.
type Eye struct {
	unread []byte
	made   bool
}

// Look is an eye at the beginning of b.
func Look(b []byte) *Eye {
	return &Eye{unread: slices.Clone(b), made: true}
}

// none says whether Look did not make the eye.
func (e *Eye) none() bool { return e == nil || !e.made }

// Fixed reads a fixed integer of so many bytes.
func (e *Eye) Fixed(size int) (uint64, api.Errno) {
	switch {
	case e.none():
		return 0, api.ErrNil
	case !isSize(size):
		return 0, api.ErrArg
	case len(e.unread) < size:
		return 0, api.ErrOctet
	}
	n := number(e.unread[:size])
	e.unread = e.unread[size:]
	return n, api.OK
}

// number is the integer of bytes, the least significant first.
func number(b []byte) uint64 {
	n := uint64(0)
	for place, x := range b {
		n |= uint64(x) << (8 * place)
	}
	return n
}

// Size reads a compact size in its shortest encoding.
func (e *Eye) Size() (uint64, api.Errno) {
	if e.none() {
		return 0, api.ErrNil
	}
	n, length, is := e.size()
	if !is {
		return 0, api.ErrOctet
	}
	e.unread = e.unread[length:]
	return n, api.OK
}

// size is the compact size that comes next, and its length, without going past it.
func (e *Eye) size() (n uint64, length int, is bool) {
	if len(e.unread) == 0 {
		return 0, 0, false
	}
	length = announced(e.unread[0])
	switch {
	case len(e.unread) < length:
		return 0, 0, false
	case length == 1:
		return uint64(e.unread[0]), 1, true
	}
	n = number(e.unread[1:length])
	return n, length, Compact(n) == length
}

// announced is the length of a compact size that begins with this byte.
func announced(first byte) int {
	switch first {
	case mark2:
		return 3
	case mark4:
		return 5
	case mark8:
		return 9
	}
	return 1
}

// Bytes reads a byte string of at most so many bytes.
func (e *Eye) Bytes(most int) ([]byte, api.Errno) {
	if e.none() {
		return nil, api.ErrNil
	}
	n, length, is := e.size()
	if !is || most < 0 || n > uint64(most) || n > uint64(len(e.unread)-length) {
		return nil, api.ErrOctet
	}
	e.unread = e.unread[length:]
	return e.Raw(int(n))
}

// Raw reads the next n bytes.
func (e *Eye) Raw(n int) ([]byte, api.Errno) {
	switch {
	case e.none():
		return nil, api.ErrNil
	case n < 0:
		return nil, api.ErrArg
	case n > len(e.unread):
		return nil, api.ErrOctet
	}
	b := slices.Clone(e.unread[:n])
	e.unread = e.unread[n:]
	return b, api.OK
}

// Left is how many bytes are unread.
func (e *Eye) Left() int {
	if e.none() {
		return 0
	}
	return len(e.unread)
}

// End says whether everything was read.
func (e *Eye) End() api.Errno {
	switch {
	case e.none():
		return api.ErrNil
	case len(e.unread) > 0:
		return api.ErrOctet
	}
	return api.OK
}
