package script

import (
	"slices"

	"purser/api"
	"purser/num"
	"purser/ops"
	"purser/stack"
)

// branch is what an open branch is.
type branch int

const (
	taken   branch = iota
	skipped        // OpElse turns it into a taken one
	never          // opened where nothing was executed: OpElse leaves it
)

// failure is what the machine panics with when a run ends with an error.
type failure struct{ e api.Errno }

// machine is the state of a run.
type machine struct {
	stack    *stack.Stack
	digest   api.Hash
	counted  int // operations that are not pushes, and keys
	branches []branch
}

// run runs a script, and is the error that ended it.
func (m *machine) run(script []byte) (e api.Errno) {
	defer func() {
		reason := recover()
		if f, is := reason.(failure); is {
			e = f.e
		} else if reason != nil {
			panic(reason)
		}
	}()
	m.perform(script)
	return api.OK
}

// must ends the run if there is an error.
func must(e api.Errno) {
	if e != api.OK {
		panic(failure{e})
	}
}

// need ends the run with an error unless something is so.
func need(is bool, e api.Errno) {
	if !is {
		panic(failure{e})
	}
}

// perform performs the operations of a script.
func (m *machine) perform(script []byte) {
	need(len(script) <= api.MaxScript, api.ErrLong)
	l, e := ops.Split(script)
	must(e)
operations:
	for _, o := range l {
		value, push := ops.Value(o)
		need(len(o.Data) <= api.MaxScript, api.ErrLong)
		if !push {
			m.count(1)
		}
		if m.flows(o.Code) || !m.executes() {
			continue operations
		}
		if push {
			must(m.stack.Push(value))
		} else {
			m.execute(o.Code)
		}
	}
	need(len(m.branches) == 0, api.ErrFlow)
}

// count counts operations, or keys.
func (m *machine) count(n int) {
	m.counted += n
	need(m.counted <= api.MaxOps, api.ErrLong)
}

// executes says whether every open branch is taken.
func (m *machine) executes() bool {
	return !slices.ContainsFunc(m.branches, func(b branch) bool { return b != taken })
}

// flows does an operation on branches, executed or not, and says whether the code is one.
func (m *machine) flows(code byte) bool {
	innermost := len(m.branches) - 1
	switch code {
	case api.OpIf, api.OpNotif:
		m.branches = append(m.branches, m.opened(code))
	case api.OpElse:
		need(innermost >= 0, api.ErrFlow)
		m.branches[innermost] = m.branches[innermost].inverted()
	case api.OpEndif:
		need(innermost >= 0, api.ErrFlow)
		m.branches = m.branches[:innermost]
	default:
		return false
	}
	return true
}

// opened is the branch that OpIf or OpNotif opens.
func (m *machine) opened(code byte) branch {
	if !m.executes() {
		return never
	}
	if num.True(m.pop()) == (code == api.OpIf) {
		return taken
	}
	return skipped
}

// inverted is what OpElse makes of a branch.
func (b branch) inverted() branch {
	switch b {
	case taken:
		return skipped
	case skipped:
		return taken
	}
	return never
}

// pop removes the top.
func (m *machine) pop() []byte {
	b, e := m.stack.Pop()
	must(e)
	return b
}

// number removes the top, a script integer.
func (m *machine) number() int64 {
	n, e := m.stack.Number()
	must(e)
	return n
}

// take removes n elements; the top is the last of them.
func (m *machine) take(n int64) [][]byte {
	var l [][]byte
	for range n {
		l = append(l, m.pop())
	}
	slices.Reverse(l)
	return l
}

// pushNumber pushes the result of an operation.
func (m *machine) pushNumber(n int64) {
	b, e := num.Encode(n)
	must(e)
	must(m.stack.Push(b))
}
