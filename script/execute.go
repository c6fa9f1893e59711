package script

import (
	"bytes"

	"purser/api"
	"purser/num"
	"purser/sha"
	"purser/sign"
	"purser/stack"
)

// execute executes an operation that is neither a push nor one on branches.
func (m *machine) execute(code byte) {
	switch {
	case stack.Does(code):
		must(m.stack.Do(code))
		return
	case num.Arity(code) > 0:
		m.calculate(code)
		return
	}
	switch code {
	case api.OpNop:
	case api.OpVerify:
		need(num.True(m.pop()), api.ErrVerify)
	case api.OpReturn:
		must(api.ErrReturn)
	case api.OpEqual, api.OpEqualverify:
		is := bytes.Equal(m.pop(), m.pop())
		m.conclude(is, code == api.OpEqualverify)
	case api.OpSha, api.OpHash160, api.OpHash256:
		must(m.stack.Push(hashed(code, m.pop())))
	case api.OpSig, api.OpSigv:
		key := m.pop()
		is := sign.Is(key, m.pop(), m.digest)
		m.conclude(is, code == api.OpSigv)
	case api.OpMulti, api.OpMultiv:
		m.conclude(m.matches(), code == api.OpMultiv)
	default:
		must(api.ErrOp)
	}
}

// conclude pushes an outcome, or, of an operation that verifies it, demands it.
func (m *machine) conclude(is, verify bool) {
	if verify {
		need(is, api.ErrVerify)
		return
	}
	must(m.stack.Push(num.Flag(is)))
}

// calculate executes an arithmetic operation.
func (m *machine) calculate(code byte) {
	switch num.Arity(code) {
	case 1:
		n, e := num.One(code, m.number())
		must(e)
		m.pushNumber(n)
	case 2:
		b := m.number()
		n, e := num.Two(code, m.number(), b)
		must(e)
		if code == api.OpNumeqv {
			m.conclude(n != 0, true)
		} else {
			m.pushNumber(n)
		}
	case 3:
		to := m.number()
		from := m.number()
		m.conclude(num.Within(m.number(), from, to), false)
	}
}

// hashed is the hash of an element that the operation asks for.
func hashed(code byte, b []byte) []byte {
	switch code {
	case api.OpHash160:
		return sha.Short(b)
	case api.OpHash256:
		twice := sha.Twice(b)
		return twice[:]
	}
	once := sha.Of(b)
	return once[:]
}

// matches removes what an operation on several keys does, and says whether the signatures match the keys.
func (m *machine) matches() bool {
	many := m.number()
	need(many >= 0 && many <= api.MaxKeys, api.ErrKeys)
	m.count(int(many))
	keys := m.take(many)
	signed := m.number()
	need(signed >= 0 && signed <= many, api.ErrKeys)
	sigs := m.take(signed)
	need(len(m.pop()) == 0, api.ErrVerify)
	return Match(keys, sigs, m.digest)
}
