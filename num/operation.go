package num

import "purser/api"

// integer is a number that the operations are of.
type integer int64

// truth is 1 for what is, and 0 for what is not.
func truth(is bool) integer {
	if is {
		return 1
	}
	return 0
}

func (n integer) isScript() bool { return n >= -api.MaxNum && n <= api.MaxNum }

func (n integer) next() integer     { return n + 1 }
func (n integer) previous() integer { return n - 1 }
func (n integer) negated() integer  { return -n }
func (n integer) absolute() integer { return max(n, -n) }
func (n integer) isZero() integer   { return truth(n == 0) }
func (n integer) nonzero() integer  { return truth(n != 0) }

func (n integer) plus(m integer) integer    { return n + m }
func (n integer) minus(m integer) integer   { return n - m }
func (n integer) and(m integer) integer     { return truth(n != 0 && m != 0) }
func (n integer) or(m integer) integer      { return truth(n != 0 || m != 0) }
func (n integer) equal(m integer) integer   { return truth(n == m) }
func (n integer) differs(m integer) integer { return truth(n != m) }
func (n integer) less(m integer) integer    { return truth(n < m) }
func (n integer) greater(m integer) integer { return truth(n > m) }
func (n integer) atMost(m integer) integer  { return truth(n <= m) }
func (n integer) atLeast(m integer) integer { return truth(n >= m) }
func (n integer) lower(m integer) integer   { return min(n, m) }
func (n integer) higher(m integer) integer  { return max(n, m) }

// ofOne is the function of an operation of one integer, or nil.
func ofOne(code byte) func(integer) integer {
	switch code {
	case api.Op1add:
		return integer.next
	case api.Op1sub:
		return integer.previous
	case api.OpNegate:
		return integer.negated
	case api.OpAbs:
		return integer.absolute
	case api.OpNot:
		return integer.isZero
	case api.OpNonzero:
		return integer.nonzero
	}
	return nil
}

// ofTwo is the function of an operation of two integers, or nil.
func ofTwo(code byte) func(integer, integer) integer {
	switch code {
	case api.OpAdd:
		return integer.plus
	case api.OpSub:
		return integer.minus
	case api.OpAnd:
		return integer.and
	case api.OpOr:
		return integer.or
	case api.OpNumeq, api.OpNumeqv:
		return integer.equal
	case api.OpNumne:
		return integer.differs
	case api.OpLess:
		return integer.less
	case api.OpGreater:
		return integer.greater
	case api.OpMost:
		return integer.atMost
	case api.OpLeast:
		return integer.atLeast
	case api.OpMin:
		return integer.lower
	case api.OpMax:
		return integer.higher
	}
	return nil
}

// One is what an operation makes of one integer.
func One(code byte, n int64) (int64, api.Errno) {
	operation, a := ofOne(code), integer(n)
	switch {
	case operation == nil:
		return 0, api.ErrArg
	case !a.isScript():
		return 0, api.ErrNum
	}
	return int64(operation(a)), api.OK
}

// Two is what an operation makes of two integers.
func Two(code byte, a, b int64) (int64, api.Errno) {
	operation, x, y := ofTwo(code), integer(a), integer(b)
	switch {
	case operation == nil:
		return 0, api.ErrArg
	case !x.isScript() || !y.isScript():
		return 0, api.ErrNum
	}
	return int64(operation(x, y)), api.OK
}

// Within says whether n is at least from and below to.
func Within(n, from, to int64) bool { return from <= n && n < to }

// Arity is of how many integers an operation is, or 0.
func Arity(code byte) int {
	switch {
	case ofOne(code) != nil:
		return 1
	case ofTwo(code) != nil:
		return 2
	case code == api.OpWithin:
		return 3
	}
	return 0
}
