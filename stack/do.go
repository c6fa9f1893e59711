package stack

import (
	"strings"

	"purser/api"
	"purser/num"
)

// Does says whether a code is a stack operation.
func Does(code byte) bool {
	switch code {
	case api.OpToalt, api.OpFromalt, api.OpIfdup, api.OpDepth, api.OpPick, api.OpRoll, api.OpSize:
		return true
	}
	_, _, is := arrangement(code)
	return is
}

// Do does a stack operation.
func (s *Stack) Do(code byte) api.Errno {
	switch {
	case s.none():
		return api.ErrNil
	case !Does(code):
		return api.ErrArg
	case code == api.OpToalt:
		return move(&s.pile, &s.other)
	case code == api.OpFromalt:
		return move(&s.other, &s.pile)
	}
	gone, come, e := s.change(code)
	switch {
	case e != api.OK:
		return e
	case s.both()-gone+len(come) > api.MaxStack:
		return api.ErrDeep
	}
	s.drop(gone)
	s.push(come...)
	return api.OK
}

// move moves the top of one pile to another.
func move(from, to *pile) api.Errno {
	if from.size() == 0 {
		return api.ErrStack
	}
	to.push(from.below(0))
	from.drop(1)
	return api.OK
}

// change is what an operation changes of the main stack: how many elements go, and which ones come.
func (s *Stack) change(code byte) (gone int, come [][]byte, e api.Errno) {
	if code == api.OpDepth {
		return 0, [][]byte{encoded(s.size())}, api.OK
	}
	if s.size() == 0 {
		return 0, nil, api.ErrStack
	}
	top := s.below(0)
	switch code {
	case api.OpIfdup:
		if num.True(top) {
			come = append(come, top)
		}
		return 0, come, api.OK
	case api.OpSize:
		return 0, [][]byte{encoded(len(top))}, api.OK
	case api.OpPick, api.OpRoll:
		return s.reach(code, top)
	}
	return s.arrange(code)
}

// encoded is the encoding of a count of elements, or of bytes of one.
func encoded(n int) []byte {
	b, _ := num.Encode(int64(n))
	return b
}

// reach is the change of an operation that takes an element at the depth that the top tells.
func (s *Stack) reach(code byte, top []byte) (gone int, come [][]byte, e api.Errno) {
	n, e := num.Decode(top)
	if e != api.OK {
		return 0, nil, e
	}
	if n < 0 || n >= int64(s.size()-1) {
		return 0, nil, api.ErrStack
	}
	depth := int(n)
	found := s.below(depth + 1)
	if code == api.OpPick {
		return 1, [][]byte{found}, api.OK
	}
	gone = depth + 2 // the top, what lies above the element, and the element
	above := s.last(gone)[1 : gone-1]
	return gone, append(above, found), api.OK
}

// arrange is the change of an operation that only arranges the last elements anew.
func (s *Stack) arrange(code byte) (gone int, come [][]byte, e api.Errno) {
	before, after, _ := arrangement(code)
	if s.size() < len(before) {
		return 0, nil, api.ErrStack
	}
	last := s.last(len(before))
	for i := range len(after) {
		come = append(come, last[strings.IndexByte(before, after[i])])
	}
	return len(before), come, api.OK
}

// arrangement is how an operation arranges the last elements anew, each a letter, the top at the right.
func arrangement(code byte) (before, after string, is bool) {
	switch code {
	case api.OpDrop:
		return "a", "", true
	case api.Op2drop:
		return "ab", "", true
	case api.OpDup:
		return "a", "aa", true
	case api.Op2dup:
		return "ab", "abab", true
	case api.Op3dup:
		return "abc", "abcabc", true
	case api.Op2over:
		return "abcd", "abcdab", true
	case api.Op2rot:
		return "abcdef", "cdefab", true
	case api.Op2swap:
		return "abcd", "cdab", true
	case api.OpSwap:
		return "ab", "ba", true
	case api.OpNip:
		return "ab", "b", true
	case api.OpOver:
		return "ab", "aba", true
	case api.OpRot:
		return "abc", "bca", true
	case api.OpTuck:
		return "ab", "bab", true
	}
	return "", "", false
}
