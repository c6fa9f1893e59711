package script_test

import (
	"bytes"
	"math/rand"
	"slices"
	"testing"

	"purser/api"
	"purser/num"
	"purser/ops"
	"purser/script"
	"purser/sha"
	"purser/sign"
	"purser/stack"
)

// digest is the one that is signed.
func digest() api.Hash { return api.Hash{4, 2} }

func secret(n int) api.Hash { return api.Hash{1, byte(n)} }

func key(n int) []byte {
	k := sign.Public(secret(n))
	return k[:]
}

func sig(n int) []byte { return sign.Sign(secret(n), digest()) }

// write is a script of codes (bytes), numbers (ints) and elements (byte slices, or texts).
func write(t *testing.T, parts ...any) []byte {
	t.Helper()
	var l []api.Op
	for _, part := range parts {
		switch x := part.(type) {
		case byte:
			l = append(l, api.Op{Code: x})
		case int:
			b, _ := num.Encode(int64(x))
			o, _ := ops.Push(b)
			l = append(l, o)
		case string:
			o, _ := ops.Push([]byte(x))
			l = append(l, o)
		case []byte:
			o, _ := ops.Push(x)
			l = append(l, o)
		}
	}
	b, e := ops.Join(l)
	if e != api.OK {
		t.Fatal(e)
	}
	return b
}

func empty() *stack.Stack {
	s, _ := stack.New()
	return s
}

// leaves tells of a script that does not leave just these elements, written as for write.
func leaves(t *testing.T, code []byte, want ...any) {
	t.Helper()
	s, e := script.Run(empty(), code, digest())
	if e != api.OK {
		t.Errorf("% x: error %d", code, e)
		return
	}
	pushed, _ := script.Run(empty(), write(t, want...), digest())
	if !slices.EqualFunc(s.All(), pushed.All(), bytes.Equal) || len(s.Other()) != 0 {
		t.Errorf("% x leaves %q, not %q", code, s.All(), pushed.All())
	}
}

func fails(t *testing.T, want api.Errno, code []byte) {
	t.Helper()
	if s, e := script.Run(empty(), code, digest()); s != nil || e != want {
		t.Errorf("% x: error %d, not %d", code, e, want)
	}
}

const (
	nop, opIf, notif, opElse, endif, verify, opReturn = byte(api.OpNop), byte(api.OpIf), byte(api.OpNotif), byte(api.OpElse), byte(api.OpEndif), byte(api.OpVerify), byte(api.OpReturn)
	equal, equalverify, add, within, numeqv, opSig    = byte(api.OpEqual), byte(api.OpEqualverify), byte(api.OpAdd), byte(api.OpWithin), byte(api.OpNumeqv), byte(api.OpSig)
	sigv, multi, multiv, dup, drop, toalt, fromalt    = byte(api.OpSigv), byte(api.OpMulti), byte(api.OpMultiv), byte(api.OpDup), byte(api.OpDrop), byte(api.OpToalt), byte(api.OpFromalt)
)

// P13.1
func TestPushes(t *testing.T) {
	leaves(t, write(t, 1, "ab", ""), 1, "ab", 0)
	leaves(t, []byte{api.OpMinus, api.OpOne, api.OpSixteen, 0x4C, 1, 7, 0x4D, 1, 0, 8}, -1, 1, 16, 7, 8)
	leaves(t, nil)
	long := bytes.Repeat([]byte{9}, 517)
	leaves(t, slices.Concat([]byte{0x4D, 5, 2}, long), long)
	leaves(t, bytes.Repeat([]byte{api.OpOne}, 100), slices.Repeat([]any{1}, 100)...)
	fails(t, api.ErrDeep, bytes.Repeat([]byte{api.OpOne}, 101))
}

// P13.1
func TestSimple(t *testing.T) {
	leaves(t, write(t, nop, 5, nop), 5)
	leaves(t, write(t, 7, 1, verify), 7)
	fails(t, api.ErrVerify, write(t, 0, verify))
	fails(t, api.ErrVerify, write(t, []byte{0, 0x80}, verify))
	fails(t, api.ErrStack, write(t, verify))
	fails(t, api.ErrReturn, write(t, opReturn, byte(0xFE)))
	leaves(t, write(t, "ab", "ab", equal), 1)
	leaves(t, write(t, "ab", "ac", equal), 0)
	leaves(t, write(t, 1, []byte{1, 0}, equal), 0)
	leaves(t, write(t, 9, "ab", "ab", equalverify), 9)
	fails(t, api.ErrVerify, write(t, "ab", "", equalverify))
	fails(t, api.ErrStack, write(t, "ab", equal))
	fails(t, api.ErrStack, write(t, equalverify))
	leaves(t, write(t, 1, 2, toalt, 3, fromalt), 1, 3, 2)
	leaves(t, write(t, 1, 2, toalt), 1)
	fails(t, api.ErrStack, write(t, fromalt))
	fails(t, api.ErrStack, write(t, dup))
	fails(t, api.ErrNum, write(t, "a", []byte{0}, byte(api.OpPick)))
}

// P13.1
func TestUnknown(t *testing.T) {
	known := 0
	for code := range 256 {
		c := byte(code)
		if code > 0 && code <= 0x4D {
			continue
		}
		_, e := script.Run(empty(), []byte{c}, digest())
		switch {
		case code == 0, code == 0x4F, code >= 0x51 && code <= 0x61:
			known++
			if e != api.OK {
				t.Errorf("%x: %d", code, e)
			}
		case code == api.OpDepth:
			if e != api.OK {
				t.Errorf("%x: %d", code, e)
			}
		case stack.Does(c), num.Arity(c) > 0, code == api.OpIf, code == api.OpNotif, code == api.OpVerify, code == api.OpEqual, code == api.OpEqualverify, code >= api.OpSha && code <= api.OpHash256, code >= api.OpSig && code <= api.OpMultiv:
			if e != api.ErrStack {
				t.Errorf("%x: %d", code, e)
			}
		case code == api.OpElse, code == api.OpEndif:
			if e != api.ErrFlow {
				t.Errorf("%x: %d", code, e)
			}
		case code == api.OpReturn:
			if e != api.ErrReturn {
				t.Errorf("%x: %d", code, e)
			}
		default:
			if e != api.ErrOp {
				t.Errorf("%x: %d", code, e)
			}
			leaves(t, write(t, 0, opIf, c, endif))
		}
	}
	if known != 19 {
		t.Error(known)
	}
}

// P13.1
func TestBranches(t *testing.T) {
	leaves(t, write(t, 1, opIf, 2, opElse, 3, endif), 2)
	leaves(t, write(t, 0, opIf, 2, opElse, 3, endif), 3)
	leaves(t, write(t, 1, notif, 2, opElse, 3, endif), 3)
	leaves(t, write(t, 0, notif, 2, opElse, 3, endif), 2)
	leaves(t, write(t, []byte{0x80}, opIf, 2, endif))
	leaves(t, write(t, "yes", opIf, 2, endif), 2)
	leaves(t, write(t, 1, opIf, 2, opElse, 3, opElse, 4, opElse, 5, endif, 6), 2, 4, 6)
	leaves(t, write(t, 0, opIf, 2, opElse, 3, opElse, 4, opElse, 5, endif, 6), 3, 5, 6)
	// What stands in a branch that is not taken is not executed: neither errors nor conditions.
	leaves(t, write(t, 0, opIf, opReturn, byte(0xFE), verify, add, opIf, 2, opElse, 3, endif, notif, 4, opElse, 5, endif, endif, 6), 6)
	leaves(t, write(t, 1, opIf, 0, opIf, 2, opElse, 3, endif, opElse, 4, opIf, 5, opElse, 6, endif, endif), 3)
	leaves(t, write(t, 1, 0, opIf, opElse, opIf, 7, opElse, 8, endif, endif), 7)
	leaves(t, write(t, 0, notif, 0, notif, 0, notif, 7, endif, endif, endif), 7)
	for _, code := range [][]byte{write(t, opElse), write(t, endif), write(t, 1, opIf), write(t, 1, opIf, opElse), write(t, 0, notif, 1, opIf, endif), write(t, 1, opIf, endif, endif), write(t, 1, opIf, endif, opElse), write(t, 0, opIf, opIf, endif)} {
		fails(t, api.ErrFlow, code)
	}
	fails(t, api.ErrStack, write(t, opIf, endif))
	fails(t, api.ErrStack, write(t, notif, endif))
	fails(t, api.ErrReturn, write(t, 1, opIf, opReturn)) // the first error ends the run
}

// P13.1
func TestArithmetic(t *testing.T) {
	leaves(t, write(t, 2, 3, add), 5)
	leaves(t, write(t, 2, 3, byte(api.OpSub)), -1)
	leaves(t, write(t, 5, byte(api.Op1add)), 6)
	leaves(t, write(t, 5, byte(api.OpNegate)), -5)
	leaves(t, write(t, 2, 3, byte(api.OpLess)), 1)
	leaves(t, write(t, 2, 3, byte(api.OpGreater)), 0)
	leaves(t, write(t, 9, 4, 4, numeqv), 9)
	fails(t, api.ErrVerify, write(t, 9, 4, 5, numeqv))
	leaves(t, write(t, 5, 5, 6, within), 1)
	leaves(t, write(t, 6, 5, 6, within), 0)
	leaves(t, write(t, 4, 5, 6, within), 0)
	leaves(t, write(t, 1<<31-1, 1<<31-1, add), 1<<32-2)
	fails(t, api.ErrNum, write(t, 1<<31-1, 1<<31-1, add, byte(api.Op1add)))
	fails(t, api.ErrNum, write(t, []byte{1, 0}, byte(api.Op1add)))
	fails(t, api.ErrNum, write(t, "abcdef", add)) // the top is looked at first
	fails(t, api.ErrNum, write(t, "abcdef", 1, add))
	fails(t, api.ErrStack, write(t, 1, add))
	fails(t, api.ErrStack, write(t, 1, 2, within))
	fails(t, api.ErrNum, write(t, "abcdef", within))
	leaves(t, write(t, 1, 2, add, 3, add, byte(api.OpDepth)), 6, 1)
}

// P13.1
func TestHashes(t *testing.T) {
	once, twice := sha.Of([]byte("ab")), sha.Twice([]byte("ab"))
	leaves(t, write(t, "ab", byte(api.OpSha)), once[:])
	leaves(t, write(t, "ab", byte(api.OpHash160)), twice[:20])
	leaves(t, write(t, "ab", byte(api.OpHash256)), twice[:])
}

// P13.1
func TestSignatures(t *testing.T) {
	leaves(t, write(t, sig(1), key(1), opSig), 1)
	leaves(t, write(t, sig(1), key(2), opSig), 0)
	leaves(t, write(t, key(1), sig(1), opSig), 0)
	leaves(t, write(t, sign.Sign(secret(1), api.Hash{}), key(1), opSig), 0)
	leaves(t, write(t, 9, sig(1), key(1), sigv), 9)
	fails(t, api.ErrVerify, write(t, sig(2), key(1), sigv))
	fails(t, api.ErrStack, write(t, key(1), opSig))
}

// P13.1
func TestMulti(t *testing.T) {
	keys := []any{key(1), key(2), key(3), 3}
	several := func(parts ...any) []byte { return write(t, slices.Concat(parts, keys, []any{multi})...) }
	leaves(t, several(0, sig(1), sig(3), 2), 1)
	leaves(t, several(0, sig(3), sig(1), 2), 0)
	leaves(t, several(0, sig(1), sig(1), 2), 0)
	leaves(t, several(0, sig(2), 1), 1)
	leaves(t, several(0, sig(4), 1), 0)
	leaves(t, several(0, 0), 1)
	leaves(t, several(0, sig(1), sig(2), sig(3), 3), 1)
	leaves(t, several(7, 0, sig(1), sig(2), 2), 7, 1)
	leaves(t, write(t, 0, 0, 0, multi), 1)
	leaves(t, write(t, 8, 0, sig(1), 1, key(1), 1, multiv), 8)
	fails(t, api.ErrVerify, write(t, 8, 0, sig(2), 1, key(1), 1, multiv))
	fails(t, api.ErrKeys, several(0, 4))
	fails(t, api.ErrKeys, several(0, -1))
	fails(t, api.ErrVerify, several(1, sig(1), 1))
	fails(t, api.ErrVerify, several([]byte{0}, sig(1), 1))
	fails(t, api.ErrStack, several(sig(1), 1))
	fails(t, api.ErrStack, several(1))
	fails(t, api.ErrKeys, write(t, 21, multi))
	fails(t, api.ErrKeys, write(t, -1, multi))
	fails(t, api.ErrNum, write(t, "abcdef", multi))
	fails(t, api.ErrStack, write(t, 20, multi))
	fails(t, api.ErrStack, write(t, multi))
	fails(t, api.ErrNum, write(t, 0, "abcdef", key(1), 1, multi))
	twenty := []any{0, 0}
	for range 20 {
		twenty = append(twenty, "k")
	}
	leaves(t, write(t, append(twenty, 20, multi)...), 1)
}

// P13.1
func TestCounting(t *testing.T) {
	leaves(t, bytes.Repeat([]byte{nop}, 100))
	fails(t, api.ErrLong, bytes.Repeat([]byte{nop}, 101))
	hidden := func(n int) []byte {
		return slices.Concat([]byte{0, opIf}, bytes.Repeat([]byte{0xFE}, n), []byte{endif})
	}
	leaves(t, hidden(98))
	fails(t, api.ErrLong, hidden(99))
	leaves(t, slices.Concat(bytes.Repeat([]byte{api.OpOne, drop}, 100)))
	keys := func(nops int) []byte {
		return slices.Concat(bytes.Repeat([]byte{nop}, nops), []byte{0, 0, api.OpOne, api.OpOne, api.OpOne, 0x53, multi})
	}
	leaves(t, keys(96), 1)
	fails(t, api.ErrLong, keys(97))
	leaves(t, slices.Concat(write(t, 0, opIf), keys(97)[97:], bytes.Repeat([]byte{nop}, 97), []byte{endif})) // keys of what is not executed do not count
	fails(t, api.ErrLong, slices.Concat(bytes.Repeat([]byte{nop}, 90), write(t, 10, multi)))                 // ahead of the keys that are not there
	fails(t, api.ErrKeys, slices.Concat(bytes.Repeat([]byte{nop}, 90), write(t, 21, multi)))
	fails(t, api.ErrLong, slices.Concat(bytes.Repeat([]byte{nop}, 100), []byte{opReturn}))
	fails(t, api.ErrReturn, slices.Concat(bytes.Repeat([]byte{nop}, 99), []byte{opReturn}))
}

// P13.1
func TestBounds(t *testing.T) {
	fails(t, api.ErrLong, bytes.Repeat([]byte{api.OpReturn}, 521))
	fails(t, api.ErrLong, slices.Concat(bytes.Repeat([]byte{0}, 520), []byte{5})) // ahead of what cannot be split
	fails(t, api.ErrOps, []byte{api.OpReturn, 5})
	fails(t, api.ErrOps, []byte{api.OpPush1})
	fails(t, api.ErrReturn, slices.Concat([]byte{api.OpReturn}, bytes.Repeat([]byte{0}, 519)))
	if s, e := script.Run(nil, []byte{5}, digest()); s != nil || e != api.ErrNil {
		t.Error(e)
	}
}

// P13.1, P13.3
func TestStacksStay(t *testing.T) {
	s, _ := stack.New([]byte("a"), []byte("b"), []byte("c"))
	s.Do(api.OpToalt)
	code := write(t, "d")
	left, e := script.Run(s, code, digest())
	if e != api.OK || left.Len() != 3 || s.Len() != 2 || len(s.Other()) != 1 || len(left.Other()) != 0 {
		t.Error(e)
	}
	if _, e := script.Run(s, write(t, fromalt), digest()); e != api.ErrStack {
		t.Error("alternative stack handed on", e)
	}
	left.Pop()
	left.Pop()
	code[1] = 'X'
	if s.Len() != 2 || string(s.All()[1]) != "b" {
		t.Error(s.All())
	}
}

// P13.2
func TestEnds(t *testing.T) {
	for i, x := range []struct {
		unlock, lock []byte
		want         api.Errno
	}{
		{write(t, 2, 3), write(t, add, 5, equal), api.OK}, {write(t, 2, 3), write(t, add, 6, equal), api.ErrVerify}, {write(t, sig(1)), write(t, key(1), opSig), api.OK}, {write(t, sig(2)), write(t, key(1), opSig), api.ErrVerify},
		{write(t, 1), write(t, opIf, 2, opElse, opReturn, endif), api.OK}, {write(t, 0), write(t, opIf, 2, opElse, opReturn, endif), api.ErrReturn}, {write(t, 1), write(t, opElse), api.ErrFlow}, {write(t, nop), write(t, 1), api.ErrVerify},
		{[]byte{5}, write(t, 1), api.ErrVerify}, {nil, nil, api.ErrStack}, {nil, write(t, 1), api.OK}, {write(t, 1), nil, api.OK}, {write(t, 0), nil, api.ErrVerify}, {write(t, 1, 0), nil, api.ErrVerify}, {write(t, 1), write(t, drop), api.ErrStack},
		{bytes.Repeat([]byte{0}, 101), write(t, 1), api.ErrDeep}, {bytes.Repeat([]byte{0}, 521), nil, api.ErrLong}, {slices.Concat([]byte{0x4D, 9, 2}, make([]byte, 521)), nil, api.ErrLong}, {nil, []byte{5}, api.ErrOps},
		{write(t, 0, sig(1), sig(3)), write(t, 2, key(1), key(2), key(3), 3, multi), api.OK}, {write(t, 0, sig(3), sig(1)), write(t, 2, key(1), key(2), key(3), 3, multi), api.ErrVerify},
		{nil, bytes.Repeat([]byte{nop}, 521), api.ErrLong}, {write(t, 1), slices.Repeat([]byte{nop}, 100), api.OK}, {write(t, []byte{0x80}), nil, api.ErrVerify},
	} {
		if e := script.Ends(x.unlock, x.lock, digest()); e != x.want {
			t.Error(i, e, x.want)
		}
	}
}

// P13.2
func TestMatch(t *testing.T) {
	keys := [][]byte{key(1), key(2), key(2), key(3)}
	for i, x := range []struct {
		sigs []int
		want bool
	}{{nil, true}, {[]int{1}, true}, {[]int{3}, true}, {[]int{4}, false}, {[]int{1, 2, 2, 3}, true}, {[]int{2, 2}, true}, {[]int{2, 2, 2}, false}, {[]int{1, 3}, true}, {[]int{3, 1}, false}, {[]int{1, 1}, false}, {[]int{1, 2, 2, 3, 3}, false}, {[]int{4, 1}, false}} {
		var sigs [][]byte
		for _, n := range x.sigs {
			sigs = append(sigs, sig(n))
		}
		if script.Match(keys, sigs, digest()) != x.want {
			t.Error(i)
		}
		if len(x.sigs) > 0 && script.Match(keys, sigs, api.Hash{9}) {
			t.Error("another digest", i)
		}
	}
	if !script.Match(nil, nil, digest()) || script.Match(nil, [][]byte{sig(1)}, digest()) || script.Match(keys, [][]byte{nil}, digest()) {
		t.Error("none")
	}
}

// P13.4
func TestTwoParts(t *testing.T) {
	r := rand.New(rand.NewSource(13))
	codes := []byte{0, api.OpOne, 0x52, 0x53, api.OpDup, api.OpAdd, api.OpSwap, api.OpSub, api.OpNot, api.OpSha, api.OpIfdup, api.OpEqual, api.OpDepth, api.OpSize, api.OpOver}
	ends := 0
	for range 3000 {
		code := make([]byte, 2+r.Intn(20))
		for i := range code {
			code[i] = codes[r.Intn(len(codes))]
		}
		cut := r.Intn(len(code))
		atOnce, e := script.Run(empty(), code, digest())
		half, f := script.Run(empty(), code[:cut], digest())
		if f == api.OK {
			half, f = script.Run(half, code[cut:], digest())
		}
		if e != f || e == api.OK && !slices.EqualFunc(half.All(), atOnce.All(), bytes.Equal) {
			t.Fatalf("% x at %d: %d, %d", code, cut, e, f)
		}
		if e == api.OK {
			ends++
		}
	}
	if ends < 100 {
		t.Error(ends)
	}
}
