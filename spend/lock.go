package spend

import (
	"purser/api"
	"purser/num"
	"purser/ops"
	"purser/sign"
)

// shortSize is the length of a short hash, in bytes.
const shortSize = 20

// part adds operations to those of a script.
type part func(l []api.Op) []api.Op

// assembled is the script of parts.
func assembled(parts ...part) []byte {
	var l []api.Op
	for _, add := range parts {
		l = add(l)
	}
	b, _ := ops.Join(l)
	return b
}

// code is the part of operations without data.
func code(codes ...byte) part {
	return func(l []api.Op) []api.Op {
		for _, c := range codes {
			l = append(l, api.Op{Code: c})
		}
		return l
	}
}

// push is the part that pushes bytes, which are never too many here.
func push(b []byte) part {
	return func(l []api.Op) []api.Op {
		o, _ := ops.Push(b)
		return append(l, o)
	}
}

// number is the part that pushes a small number.
func number(n int) part {
	b, _ := num.Encode(int64(n))
	return push(b)
}

// PayKey is the locking script of a public key.
func PayKey(key api.Hash) []byte {
	return assembled(push(key[:]), code(api.OpSig))
}

// PayShort is the locking script of a short hash.
func PayShort(short []byte) []byte {
	return assembled(code(api.OpDup, api.OpHash160), push(short[:min(shortSize, len(short))]), code(api.OpEqualverify, api.OpSig))
}

// PaySeveral is the locking script of several keys, of which n have to sign.
func PaySeveral(n int, keys []api.Hash) ([]byte, api.Errno) {
	if n < 0 || n > len(keys) || len(keys) > api.MaxKeys {
		return nil, api.ErrArg
	}
	pushed := func(l []api.Op) []api.Op {
		for _, key := range keys {
			l = push(key[:])(l)
		}
		return l
	}
	return assembled(number(n), pushed, number(len(keys)), code(api.OpMulti)), api.OK
}

// Signed is a script that pushes the signature of an input by a secret.
func Signed(secret api.Hash, t api.Tx, n int, lock []byte) ([]byte, api.Errno) {
	digest, e := Digest(t, n, lock)
	if e != api.OK {
		return nil, e
	}
	return assembled(push(sign.Sign(secret, digest))), api.OK
}
