package stack_test

import (
	"bytes"
	"math/rand"
	"slices"
	"strings"
	"testing"

	"purser/api"
	"purser/num"
	"purser/stack"
)

// of is stacks with elements that are written with spaces between.
func of(t *testing.T, text string) *stack.Stack {
	t.Helper()
	var l [][]byte
	for _, s := range strings.Fields(text) {
		l = append(l, element(s))
	}
	s, e := stack.New(l...)
	if e != api.OK {
		t.Fatal(e)
	}
	return s
}

// element is the bytes of a text: of digits the number's encoding, of _ no bytes.
func element(s string) []byte {
	if s == "_" {
		return nil
	}
	n := int64(0)
	for _, c := range s {
		if c < '0' || c > '9' {
			return []byte(s)
		}
		n = 10*n + int64(c-'0')
	}
	b, _ := num.Encode(n)
	return b
}

// is tells of a main stack that has other elements.
func is(t *testing.T, what string, l [][]byte, text string) {
	t.Helper()
	want := strings.Fields(text)
	ok := len(l) == len(want)
	for i := range want {
		ok = ok && bytes.Equal(l[i], element(want[i]))
	}
	if !ok {
		t.Errorf("%s: %q, not %s", what, l, text)
	}
}

func fails(t *testing.T, what string, got, want api.Errno) {
	t.Helper()
	if got != want {
		t.Errorf("%s: error %d, not %d", what, got, want)
	}
}

// operations are each code with a main stack before and after it.
func operations() map[byte][][2]string {
	return map[byte][][2]string{
		api.OpDrop: {{"x a", "x"}}, api.Op2drop: {{"x a b", "x"}}, api.OpDup: {{"x a", "x a a"}}, api.Op2dup: {{"x a b", "x a b a b"}}, api.Op3dup: {{"x a b c", "x a b c a b c"}, {"1 2 3", "1 2 3 1 2 3"}},
		api.Op2over: {{"x a b c d", "x a b c d a b"}}, api.Op2rot: {{"x a b c d e f", "x c d e f a b"}}, api.Op2swap: {{"x a b c d", "x c d a b"}}, api.OpSwap: {{"x a b", "x b a"}},
		api.OpIfdup: {{"x a", "x a a"}, {"x _", "x _"}, {"1", "1 1"}, {"0", "0"}}, api.OpDepth: {{"", "0"}, {"1 2 3", "1 2 3 3"}}, api.OpNip: {{"x a b", "x b"}, {"1 2 3", "1 3"}}, api.OpOver: {{"x a b", "x a b a"}},
		api.OpRot: {{"x a b c", "x b c a"}, {"1 2 3", "2 3 1"}}, api.OpTuck: {{"x a b", "x b a b"}, {"1 2 3", "1 3 2 3"}},
		api.OpPick: {{"1 2 3 2", "1 2 3 1"}, {"1 2 3 0", "1 2 3 3"}, {"1 2 3 1", "1 2 3 2"}}, api.OpRoll: {{"1 2 3 2", "2 3 1"}, {"1 2 3 0", "1 2 3"}, {"1 2 3 1", "1 3 2"}},
		api.OpSize: {{"abcde", "abcde 5"}, {"_", "_ 0"}}, api.OpToalt: {{"a b", "a"}},
	}
}

// P12.2, P12.3
func TestDo(t *testing.T) {
	for code := range 256 {
		c := byte(code)
		cases, does := operations()[c]
		if c == api.OpFromalt {
			continue
		}
		if stack.Does(c) != does {
			t.Errorf("Does(%x)", c)
		}
		if !does {
			fails(t, "no operation", of(t, "1 2 3").Do(c), api.ErrArg)
			fails(t, "no operation", of(t, "").Do(c), api.ErrArg)
		}
		for _, x := range cases {
			s := of(t, x[0])
			fails(t, x[0], s.Do(c), api.OK)
			is(t, x[0], s.All(), x[1])
			if s.Len() != len(strings.Fields(x[1])) {
				t.Error(s.Len())
			}
		}
	}
	if !stack.Does(api.OpFromalt) {
		t.Error("OpFromalt")
	}
}

// P12.2
func TestDoTooFew(t *testing.T) {
	least := map[byte]int{api.OpDrop: 1, api.Op2drop: 2, api.OpDup: 1, api.Op2dup: 2, api.Op3dup: 3, api.Op2over: 4, api.Op2rot: 6, api.Op2swap: 4, api.OpSwap: 2, api.OpIfdup: 1, api.OpNip: 2, api.OpOver: 2, api.OpRot: 3, api.OpTuck: 2, api.OpPick: 2, api.OpRoll: 2, api.OpSize: 1, api.OpToalt: 1, api.OpFromalt: 1}
	for code, n := range least {
		for few := range n {
			text := strings.Repeat("0 ", few)
			s := of(t, text)
			fails(t, text, s.Do(code), api.ErrStack)
			is(t, text, s.All(), text)
			is(t, text, s.Other(), "")
		}
	}
}

// P12.2
func TestReach(t *testing.T) {
	for _, code := range []byte{api.OpPick, api.OpRoll} {
		for text, want := range map[string]api.Errno{"1 2 3 3": api.ErrStack, "1 2 3 100": api.ErrStack, "0": api.ErrStack, "1 2 2147483647": api.ErrStack, "1 2 2147483648": api.ErrNum, "1 2 \x81": api.ErrStack, "abcdef": api.ErrNum} {
			s := of(t, text)
			fails(t, text, s.Do(code), want)
			is(t, text, s.All(), text)
		}
		for _, top := range [][]byte{{0}, {0x80}, {1, 0}} {
			s, _ := stack.New([]byte("a"), []byte("b"), top)
			fails(t, "not shortest", s.Do(code), api.ErrNum)
			if s.Len() != 3 {
				t.Error(s.Len())
			}
		}
		s, _ := stack.New([]byte{0})
		fails(t, "number ahead of range", s.Do(code), api.ErrNum)
	}
}

// P12.1, P12.2
func TestDeep(t *testing.T) {
	full := func(n int) *stack.Stack { return of(t, strings.Repeat("7 ", n)) }
	for code, n := range map[byte]int{api.OpDup: 1, api.Op2dup: 2, api.Op3dup: 3, api.Op2over: 2, api.OpIfdup: 1, api.OpDepth: 1, api.OpOver: 1, api.OpTuck: 1, api.OpSize: 1} {
		s := full(101 - n)
		fails(t, "too deep", s.Do(code), api.ErrDeep)
		if s.Len() != 101-n {
			t.Error(code, s.Len())
		}
		s = full(100 - n)
		fails(t, "just deep enough", s.Do(code), api.OK)
		if s.Len() != 100 {
			t.Error(code, s.Len())
		}
	}
	s := full(100)
	for _, code := range []byte{api.OpSwap, api.OpRot, api.Op2swap, api.Op2rot, api.OpPick, api.OpToalt, api.OpFromalt} {
		fails(t, "no deeper", s.Do(code), api.OK)
	}
	s.Do(api.OpToalt)
	fails(t, "both together", s.Push(nil), api.ErrDeep)
	fails(t, "both together", s.Do(api.OpDup), api.ErrDeep)
	fails(t, "too long ahead of too deep", s.Push(make([]byte, 521)), api.ErrStack)
	if s.Len() != 99 || len(s.Other()) != 1 {
		t.Error(s.Len())
	}
	s.Pop()
	fails(t, "room again", s.Push(nil), api.OK)
	zero := of(t, strings.Repeat("7 ", 99)+"0")
	fails(t, "false is not doubled", zero.Do(api.OpIfdup), api.OK)
}

// P12.2, P12.3
func TestAlternative(t *testing.T) {
	s := of(t, "1 2 3")
	s.Do(api.OpToalt)
	s.Do(api.OpToalt)
	is(t, "main", s.All(), "1")
	is(t, "other", s.Other(), "3 2")
	fails(t, "back", s.Do(api.OpFromalt), api.OK)
	is(t, "main", s.All(), "1 2")
	is(t, "other", s.Other(), "3")
	s.Do(api.OpDepth)
	is(t, "depth of main alone", s.All(), "1 2 2")
}

// P12.1
func TestNew(t *testing.T) {
	if s, e := stack.New(); e != api.OK || s.Len() != 0 || len(s.All()) != 0 || len(s.Other()) != 0 {
		t.Error(e)
	}
	long, most := make([]byte, 521), make([]byte, 520)
	if s, e := stack.New(nil, long); s != nil || e != api.ErrStack {
		t.Error(e)
	}
	if s, e := stack.New(nil, most); e != api.OK || s.Len() != 2 {
		t.Error(e)
	}
	many := make([][]byte, 101)
	if s, e := stack.New(many...); s != nil || e != api.ErrDeep {
		t.Error(e)
	}
	if s, e := stack.New(many[:100]...); e != api.OK || s.Len() != 100 {
		t.Error(e)
	}
	many[100] = long
	if _, e := stack.New(many...); e != api.ErrStack {
		t.Error(e)
	}
}

// P12.1
func TestPushPopTop(t *testing.T) {
	s := of(t, "1 2")
	fails(t, "push", s.Push([]byte("abc")), api.OK)
	fails(t, "long", s.Push(make([]byte, 521)), api.ErrStack)
	for n, want := range map[int]string{0: "abc", 1: "\x02", 2: "\x01"} {
		if b, e := s.Top(n); string(b) != want || e != api.OK {
			t.Error(n, b, e)
		}
	}
	for _, n := range []int{-1, 3, 1 << 62, -1 << 63} {
		if b, e := s.Top(n); b != nil || e != api.ErrStack {
			t.Error(n, b, e)
		}
	}
	for _, want := range []string{"abc", "\x02", "\x01"} {
		if b, e := s.Pop(); string(b) != want || e != api.OK {
			t.Error(b, e)
		}
	}
	if b, e := s.Pop(); b != nil || e != api.ErrStack {
		t.Error(b, e)
	}
}

// P12.1
func TestNumber(t *testing.T) {
	s := of(t, "5 300")
	if n, e := s.Number(); n != 300 || e != api.OK || s.Len() != 1 {
		t.Error(n, e)
	}
	s.Push([]byte{1, 0})
	if n, e := s.Number(); n != 0 || e != api.ErrNum || s.Len() != 2 {
		t.Error(n, e)
	}
	s.Push([]byte{1, 2, 3, 4, 5})
	if n, e := s.Number(); n != 0 || e != api.ErrNum || s.Len() != 3 {
		t.Error(n, e)
	}
	if n, e := of(t, "").Number(); n != 0 || e != api.ErrStack {
		t.Error(n, e)
	}
	if n, e := of(t, "\x81").Number(); n != -1 || e != api.OK {
		t.Error(n, e)
	}
}

// P12.1, P12.2, P12.3
func TestNone(t *testing.T) {
	for _, s := range []*stack.Stack{nil, new(stack.Stack)} {
		_, a := s.Pop()
		_, b := s.Top(-1)
		_, c := s.Number()
		for _, e := range []api.Errno{s.Push(make([]byte, 1000)), a, b, c, s.Do(0), s.Do(api.OpDup), s.Do(api.OpDepth)} {
			fails(t, "none", e, api.ErrNil)
		}
		if s.Len() != 0 || s.All() != nil || s.Other() != nil {
			t.Error(s.Len(), s.All(), s.Other())
		}
	}
}

// P12.4
func TestApart(t *testing.T) {
	l := [][]byte{[]byte("aa"), []byte("bb")}
	s, _ := stack.New(l...)
	b := []byte("cc")
	s.Push(b)
	l[0][0], b[0] = 'X', 'X'
	l[1] = nil
	all := s.All()
	top, _ := s.Top(0)
	s.Do(api.OpDup)
	s.Do(api.OpToalt)
	all[0][0], all[2][0], top[0], s.Other()[0][0] = 'Y', 'Y', 'Y', 'Y'
	is(t, "shared", s.All(), "aa bb cc")
	is(t, "shared", s.Other(), "cc")
	s.Do(api.OpDup)
	popped, _ := s.Pop()
	popped[0] = 'Z'
	is(t, "shared", s.All(), "aa bb cc")
	again := s.All()
	again[0] = append(again[0], "zz"...)
	is(t, "shared", s.All(), "aa bb cc")
}

// P12.5
func TestConsequences(t *testing.T) {
	r := rand.New(rand.NewSource(12))
	for range 200 {
		var l [][]byte
		for range 6 + r.Intn(80) {
			b := make([]byte, r.Intn(5))
			r.Read(b)
			l = append(l, b)
		}
		s, _ := stack.New(l...)
		for _, codes := range [][]byte{{api.OpToalt, api.OpFromalt}, {api.OpRot, api.OpRot, api.OpRot}, {api.OpSwap, api.OpSwap}, {api.Op2swap, api.Op2swap}, {api.Op2rot, api.Op2rot, api.Op2rot}} {
			for _, code := range codes {
				fails(t, "do", s.Do(code), api.OK)
			}
			if !slices.EqualFunc(s.All(), l, bytes.Equal) || len(s.Other()) != 0 {
				t.Fatal(codes)
			}
		}
		for i := len(l) - 1; i >= 0; i-- {
			if b, e := s.Pop(); !bytes.Equal(b, l[i]) || e != api.OK {
				t.Fatal(i, b, e)
			}
		}
	}
}
